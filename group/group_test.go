package group

import (
	"math"
	"math/rand"
	"strings"
	"testing"

	"linguister/api"
)

// sizes tells all sizes that a group may have.
func sizes() []int { return []int{0, 1, 2, 3, 4} }

// wrongSizes tells sizes that no group may have.
func wrongSizes() []int { return []int{-1, 5, 6, -3, 256, math.MaxInt, math.MinInt} }

// checkPut looks at what Put tells.
func checkPut(t *testing.T, digits string, group, group2 int, comma byte, want string, wrong error) {
	t.Helper()
	if got, err := Put(digits, group, group2, comma); got != want || err != wrong {
		t.Errorf("Put(%.60q, %d, %d, %q) = %.60q %v, want %.60q %v", digits, group, group2, comma, got, err, want, wrong)
	}
}

// checkTake looks at what Take tells.
func checkTake(t *testing.T, s string, group, group2 int, comma byte, want string, wrong error) {
	t.Helper()
	if got, err := Take(s, group, group2, comma); got != want || err != wrong {
		t.Errorf("Take(%.60q, %d, %d, %q) = %.60q %v, want %.60q %v", s, group, group2, comma, got, err, want, wrong)
	}
}

// With GR1: ordinary digits and each bound of a group, both ways.
func TestGroupsGR1(t *testing.T) {
	cases := []struct {
		digits        string
		group, group2 int
		comma         byte
		text          string
	}{
		{"1234567", 3, 0, ',', "1,234,567"},
		{"1234567", 3, 3, ',', "1,234,567"},
		{"1234567", 3, 2, ',', "12,34,567"},
		{"123456789", 3, 2, ',', "12,34,56,789"},
		{"12345678", 4, 0, '\'', "1234'5678"},
		{"123456789", 4, 3, '.', "12.345.6789"},
		{"123456", 2, 4, '_', "1234_56"},
		{"1234567", 2, 4, '_', "1_2345_67"},
		{"12345", 1, 0, ' ', "1 2 3 4 5"},
		{"12345", 1, 1, ' ', "1 2 3 4 5"},
		{"12345", 1, 4, ' ', "1234 5"},
		{"123456", 1, 4, ' ', "1 2345 6"},
		{"12345", 4, 1, ' ', "1 2345"},
		{"1234567", 4, 1, ' ', "1 2 3 4567"},

		// The first group has at least one digit.
		{"1", 3, 2, ',', "1"},
		{"12", 3, 2, ',', "12"},
		{"123", 3, 2, ',', "123"},
		{"1234", 3, 2, ',', "1,234"},
		{"12345", 3, 2, ',', "12,345"},
		{"123456", 3, 2, ',', "1,23,456"},
		{"123", 3, 0, ',', "123"},
		{"123456", 3, 0, ',', "123,456"},
		{"1", 1, 0, ',', "1"},
		{"12", 1, 0, ',', "1,2"},

		// There is no comma without a group, also if group2 is not 0.
		{"1234567", 0, 0, ',', "1234567"},
		{"1234567", 0, 1, ',', "1234567"},
		{"1234567", 0, 3, ',', "1234567"},
		{"1", 0, 4, ',', "1"},

		// Zeros are digits as others are, also in front.
		{"0", 3, 0, ',', "0"},
		{"0000", 3, 0, ',', "0,000"},
		{"0000000", 3, 2, ',', "00,00,000"},
		{"0012", 2, 0, ',', "00,12"},
		{"9876543210", 3, 0, ',', "9,876,543,210"},
	}
	for _, c := range cases {
		checkPut(t, c.digits, c.group, c.group2, c.comma, c.text, nil)
		checkTake(t, c.text, c.group, c.group2, c.comma, c.digits, nil)
	}
}

// cutGroups tells what Put has to make, by cutting one group after the other off the end.
func cutGroups(digits string, group, group2 int, comma byte) string {
	if group == 0 {
		return digits
	}
	if group2 == 0 {
		group2 = group
	}
	text, size := "", group
	for len(digits) > size {
		cut := len(digits) - size
		text = string([]byte{comma}) + digits[cut:] + text
		digits, size = digits[:cut], group2
	}
	return digits + text
}

// With GR1: digits of each length up to 40 and of random ones, for each pair of
// groups, both ways.
func TestLengthsGR1(t *testing.T) {
	random := rand.New(rand.NewSource(9))
	lengths := []int{100, 1000, 1001, 1002, 1003}
	for length := range 40 {
		lengths = append(lengths, length+1)
	}
	for range 20 {
		lengths = append(lengths, 1+random.Intn(300))
	}
	for _, length := range lengths {
		digits := make([]byte, length)
		for i := range digits {
			digits[i] = byte('0' + random.Intn(10))
		}
		for _, group := range sizes() {
			for _, group2 := range sizes() {
				text := cutGroups(string(digits), group, group2, ',')
				checkPut(t, string(digits), group, group2, ',', text, nil)
				checkTake(t, text, group, group2, ',', string(digits), nil)
			}
		}
	}
}

// With GR1: every byte but a digit may be the comma.
func TestCommasGR1(t *testing.T) {
	for value := range 256 {
		comma := byte(value)
		text := "1" + string([]byte{comma}) + "234" + string([]byte{comma}) + "567"
		if '0' <= comma && comma <= '9' {
			checkPut(t, "1234567", 3, 0, comma, "", api.ErrForm)
			checkPut(t, "1234567", 0, 0, comma, "", api.ErrForm)
			checkPut(t, "1", 3, 0, comma, "", api.ErrForm)
			checkTake(t, text, 3, 0, comma, "", api.ErrForm)
			checkTake(t, "1234567", 0, 0, comma, "", api.ErrForm)
			checkTake(t, "1", 3, 0, comma, "", api.ErrForm)
			continue
		}
		checkPut(t, "1234567", 3, 0, comma, text, nil)
		checkTake(t, text, 3, 0, comma, "1234567", nil)
	}
}

// With GR1: Put takes no byte but digits, and at least one of them.
func TestWrongDigitsGR1(t *testing.T) {
	wrong := []string{"", " ", "-1", "+1", "1.5", "1,234", ",", "12a", "a12", "1 2", " 12", "12 ", "1\x002", "1\xff2", "0x1", "1e3", "１２", "١٢", "²"}
	for value := range 256 {
		if value < '0' || value > '9' {
			b := string([]byte{byte(value)})
			wrong = append(wrong, b, b+"123", "123"+b, "1"+b+"23")
		}
	}
	for _, digits := range wrong {
		for _, group := range sizes() {
			checkPut(t, digits, group, 0, ',', "", api.ErrForm)
			checkPut(t, digits, group, 2, ',', "", api.ErrForm)
		}
	}
}

// With GR1: the groups have 0 to 4 digits; a wrong group2 is one also if group is 0.
func TestWrongSizesGR1(t *testing.T) {
	for _, wrong := range wrongSizes() {
		for _, right := range sizes() {
			checkPut(t, "12", wrong, right, ',', "", api.ErrRange)
			checkPut(t, "12", right, wrong, ',', "", api.ErrRange)
			checkTake(t, "12", wrong, right, ',', "", api.ErrRange)
			checkTake(t, "12", right, wrong, ',', "", api.ErrRange)
		}
		for _, other := range wrongSizes() {
			checkPut(t, "12", wrong, other, ',', "", api.ErrRange)
			checkTake(t, "12", wrong, other, ',', "", api.ErrRange)
		}
	}
}

// With GR1: Put tells wrong digits and a wrong comma before wrong groups; Take
// tells a wrong comma before wrong groups, and those before wrong groups of s.
func TestErrorOrderGR1(t *testing.T) {
	for _, wrong := range wrongSizes() {
		for _, digits := range []string{"", "a", "1,2", "-1"} {
			checkPut(t, digits, wrong, 0, ',', "", api.ErrForm)
			checkPut(t, digits, 3, wrong, ',', "", api.ErrForm)
			checkPut(t, digits, wrong, wrong, '1', "", api.ErrForm)
			checkTake(t, digits, wrong, 0, ',', "", api.ErrRange)
			checkTake(t, digits, 3, wrong, ',', "", api.ErrRange)
			checkTake(t, digits, wrong, wrong, '1', "", api.ErrForm)
		}
		checkPut(t, "12", wrong, 0, '0', "", api.ErrForm)
		checkPut(t, "12", 3, wrong, '9', "", api.ErrForm)
		checkTake(t, "12", wrong, 0, '0', "", api.ErrForm)
		checkTake(t, "12", 3, wrong, '9', "", api.ErrForm)
	}
}

// With GR1: Take refuses commas that Put would not have put, or would have.
func TestWrongGroupsGR1(t *testing.T) {
	cases := []struct {
		s             string
		group, group2 int
		comma         byte
	}{
		{"", 3, 0, ','},
		{"", 0, 0, ','},
		{",", 3, 0, ','},
		{",", 0, 0, ','},
		{",,", 1, 0, ','},
		{"1,2", 3, 0, ','},
		{"1234", 3, 0, ','},
		{"1,2345", 3, 0, ','},
		{"12,34", 3, 0, ','},
		{",123", 3, 0, ','},
		{",123,456", 3, 0, ','},
		{"123,", 3, 0, ','},
		{"1,234,", 3, 0, ','},
		{"1,,234", 3, 0, ','},
		{"1234,567", 3, 0, ','},
		{"1,234567", 3, 0, ','},
		{"1,234,567", 3, 2, ','},
		{"12,34,567", 3, 0, ','},
		{"1234,567", 3, 2, ','},
		{"12,345,67", 3, 2, ','},
		{"1,234", 0, 0, ','},
		{"1,234", 0, 3, ','},
		{"12", 1, 0, ','},
		{"1 234", 3, 0, ','},
		{"1.234", 3, 0, ','},
		{"1'234,567", 3, 0, ','},
		{"-1,234", 3, 0, ','},
		{"+1,234", 3, 0, ','},
		{"1,234.5", 3, 0, ','},
		{" 1,234", 3, 0, ','},
		{"1,234 ", 3, 0, ','},
		{"1,23a", 3, 0, ','},
		{"a", 3, 0, ','},
		{"a", 0, 0, 'b'},
		{"１,２３４", 3, 0, ','},
		// The comma of a byte above 127 is that byte, and not the rune.
		{"1\u00a0234", 3, 0, 0xa0},
		{"1\u00ff234", 3, 0, 0xff},
	}
	for _, c := range cases {
		checkTake(t, c.s, c.group, c.group2, c.comma, "", api.ErrForm)
	}
}

// textsOf tells all texts of these letters, up to a length.
func textsOf(letters string, length int) []string {
	texts, longest := []string{""}, []string{""}
	for range length {
		var longer []string
		for _, text := range longest {
			for _, letter := range letters {
				longer = append(longer, text+string(letter))
			}
		}
		texts, longest = append(texts, longer...), longer
	}
	return texts
}

// With GR1: of all short texts, Take takes those that Put makes, and no other.
func TestAllTextsGR1(t *testing.T) {
	texts := append(textsOf("7,", 12), textsOf("7,x", 7)...)
	for _, group := range sizes() {
		for _, group2 := range sizes() {
			made := map[string]string{}
			for length := range 12 {
				digits := strings.Repeat("7", length+1)
				made[cutGroups(digits, group, group2, ',')] = digits
			}
			for _, s := range texts {
				if digits, found := made[s]; found {
					checkTake(t, s, group, group2, ',', digits, nil)
				} else {
					checkTake(t, s, group, group2, ',', "", api.ErrForm)
				}
			}
		}
	}
}

// With GR1 and P1: texts of some megabytes are no trouble.
func TestLongTextsGR1(t *testing.T) {
	const count = 1000000
	digits := strings.Repeat("123", count)
	text := strings.Repeat("123,", count-1) + "123"
	checkPut(t, digits, 3, 0, ',', text, nil)
	checkTake(t, text, 3, 0, ',', digits, nil)
	checkTake(t, digits, 3, 0, ',', "", api.ErrForm)
	checkTake(t, strings.Repeat(",", count), 3, 0, ',', "", api.ErrForm)
	checkPut(t, digits+"x", 3, 0, ',', "", api.ErrForm)
}
