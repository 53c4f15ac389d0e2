package dec

import (
	"math"
	"math/big"
	"math/rand"
	"strconv"
	"strings"
	"testing"

	"linguister/api"
)

// invalidNumbers tells numbers that Check refuses.
func invalidNumbers() []api.Dec {
	return []api.Dec{
		{Coef: 1, Scale: -1},
		{Coef: 1, Scale: api.MaxScale + 1},
		{Scale: math.MinInt},
		{Scale: math.MaxInt},
		{Coef: api.MaxCoef + 1},
		{Coef: -api.MaxCoef - 1},
		{Coef: api.MaxCoef + 1, Scale: api.MaxScale},
		{Coef: math.MinInt},
		{Coef: math.MaxInt},
		{Coef: math.MinInt, Scale: math.MaxInt},
		{Coef: math.MaxInt, Scale: math.MinInt},
		{Coef: math.MinInt, Scale: math.MinInt},
	}
}

// validNumbers tells numbers about the bounds, the powers of ten and halves, with each scale.
func validNumbers() []api.Dec {
	coefs := []int{0, 4, 5, 6, 15, 25, 35, 44, 45, 46, 49, 50, 51, 55, 150, 250, 1499, 1500, 1501, 2500,
		123456789, 999999999999999, 500000000000000, 123456789012345, api.MaxCoef}
	for power := 1; power <= api.MaxCoef; power *= 10 {
		coefs = append(coefs, power)
		if power > 1 {
			coefs = append(coefs, power-1)
		}
		if power < api.MaxCoef {
			coefs = append(coefs, power+1, 5*power)
		}
	}
	var numbers []api.Dec
	for _, coef := range coefs {
		if coef > api.MaxCoef {
			continue
		}
		for scale := range api.MaxScale + 1 {
			numbers = append(numbers, api.Dec{Coef: coef, Scale: scale}, api.Dec{Coef: -coef, Scale: scale})
		}
	}
	return numbers
}

// power tells 10 to the power of n.
func power(n int) *big.Int {
	return new(big.Int).Exp(big.NewInt(10), big.NewInt(int64(n)), nil)
}

// value tells what a number is.
func value(d api.Dec) *big.Rat {
	return new(big.Rat).SetFrac(big.NewInt(int64(d.Coef)), power(d.Scale))
}

// numberOf tells a number with this coefficient, or the error where it is too great.
func numberOf(coef *big.Int, scale int) (api.Dec, error) {
	if new(big.Int).Abs(coef).Cmp(big.NewInt(api.MaxCoef)) > 0 {
		return api.Dec{}, api.ErrRange
	}
	return api.Dec{Coef: int(coef.Int64()), Scale: scale}, nil
}

// With DE1: Scale is from 0 to MaxScale, and Coef from -MaxCoef to MaxCoef.
func TestCheckDE1(t *testing.T) {
	for _, d := range validNumbers() {
		if err := Check(d); err != nil {
			t.Errorf("Check(%v): %v, want nil", d, err)
		}
	}
	for _, d := range invalidNumbers() {
		if err := Check(d); err != api.ErrRange {
			t.Errorf("Check(%v): %v, want ErrRange", d, err)
		}
	}
}

// textCases tells numbers and their texts.
func textCases() []struct {
	number api.Dec
	text   string
} {
	return []struct {
		number api.Dec
		text   string
	}{
		{api.Dec{}, "0"},
		{api.Dec{Scale: 1}, "0.0"},
		{api.Dec{Scale: 9}, "0.000000000"},
		{api.Dec{Coef: 7}, "7"},
		{api.Dec{Coef: -7}, "-7"},
		{api.Dec{Coef: 10}, "10"},
		{api.Dec{Coef: 1200}, "1200"},
		{api.Dec{Coef: 15, Scale: 1}, "1.5"},
		{api.Dec{Coef: 150, Scale: 2}, "1.50"},
		{api.Dec{Coef: 5, Scale: 1}, "0.5"},
		{api.Dec{Coef: -5, Scale: 1}, "-0.5"},
		{api.Dec{Coef: -50, Scale: 2}, "-0.50"},
		{api.Dec{Coef: -5, Scale: 3}, "-0.005"},
		{api.Dec{Coef: 1, Scale: 9}, "0.000000001"},
		{api.Dec{Coef: 100, Scale: 2}, "1.00"},
		{api.Dec{Coef: 99, Scale: 2}, "0.99"},
		{api.Dec{Coef: 101, Scale: 2}, "1.01"},
		{api.Dec{Coef: api.MaxCoef}, "1000000000000000"},
		{api.Dec{Coef: -api.MaxCoef}, "-1000000000000000"},
		{api.Dec{Coef: api.MaxCoef, Scale: 9}, "1000000.000000000"},
		{api.Dec{Coef: 1 - api.MaxCoef, Scale: 9}, "-999999.999999999"},
	}
}

// With DE1: the sign, the integer part and Scale digits behind the point.
func TestTextDE1(t *testing.T) {
	for _, c := range textCases() {
		if got := Text(c.number); got != c.text {
			t.Errorf("Text(%v) = %q, want %q", c.number, got, c.text)
		}
	}
}

// With DE1 and P1: also a number that Check refuses has a text, which Parse refuses.
func TestTextOfInvalidDE1(t *testing.T) {
	cases := []struct {
		number api.Dec
		text   string
	}{
		{api.Dec{Coef: 5, Scale: 12}, "0.000000000005"},
		{api.Dec{Coef: -123, Scale: 10}, "-0.0000000123"},
		{api.Dec{Scale: 10}, "0.0000000000"},
		{api.Dec{Coef: 5, Scale: -2}, "500"},
		{api.Dec{Coef: -5, Scale: -2}, "-500"},
		{api.Dec{Scale: -2}, "0"},
		{api.Dec{Coef: api.MaxCoef + 1}, "1000000000000001"},
		{api.Dec{Coef: math.MinInt}, "-9223372036854775808"},
		{api.Dec{Coef: math.MaxInt, Scale: 19}, "0.9223372036854775807"},
		{api.Dec{Coef: math.MaxInt, Scale: 18}, "9.223372036854775807"},
	}
	for _, c := range cases {
		got := Text(c.number)
		if got != c.text {
			t.Errorf("Text(%v) = %q, want %q", c.number, got, c.text)
		}
		if d, err := Parse(got); c.number.Scale >= 0 && (err != api.ErrForm || d != api.Dec{}) {
			t.Errorf("Parse(%q) = %v, %v, want ErrForm", got, d, err)
		}
	}
	for _, scale := range []int{math.MinInt, math.MinInt + 1, -1 << 31, 1<<31 - 1, 1 << 31, math.MaxInt - 1, math.MaxInt} {
		if got := Text(api.Dec{Coef: -5, Scale: scale}); got != "" {
			t.Errorf("Text with Scale %d has %d bytes, want none", scale, len(got))
		}
	}
}

// With DE1: Parse tells the number of a text.
func TestParseDE1(t *testing.T) {
	for _, c := range textCases() {
		if got, err := Parse(c.text); got != c.number || err != nil {
			t.Errorf("Parse(%q) = %v, %v, want %v", c.text, got, err, c.number)
		}
	}
}

// With DE1: a number is recovered from its text.
func TestRoundTripDE1(t *testing.T) {
	check := func(d api.Dec) {
		if got, err := Parse(Text(d)); got != d || err != nil {
			t.Errorf("Parse(%q) = %v, %v, want %v", Text(d), got, err, d)
		}
		if got := value(d).FloatString(d.Scale); got != Text(d) {
			t.Errorf("Text(%v) = %q, want %q", d, Text(d), got)
		}
	}
	for _, d := range validNumbers() {
		check(d)
	}
	for scale := range api.MaxScale + 1 {
		for coef := -1200; coef <= 1200; coef++ {
			check(api.Dec{Coef: coef, Scale: scale})
		}
	}
}

// With DE1: a text that is that of no number is refused.
func TestParseErrorsDE1(t *testing.T) {
	texts := []string{
		"", "-", ".", "-.", "+", "--1", "+1", "+0.5", "- 1", " 1", "1 ", "1\n", "\t1",
		"-0", "-0.0", "-0.000000000", "00", "01", "007", "-01", "00.5", "-00.5",
		".5", "-.5", "5.", "-5.", "0.", "1..5", "1.5.", "1.2.3", "1.-5", "-1.-5", "1.+5", "1-", "1.5-",
		"1,5", "1_000", "1,000", "1e3", "1E3", "0x10", "0b1", "0o7", "1.5e1", "inf", "Inf", "NaN", "a", "1a", "a1",
		"0.0000000000", "0.1234567890", "1.0000000000",
		"1000000000000001", "-1000000000000001", "10000000000000000", "1000000.000000001", "-1000000.000000001",
		"9223372036854775807", "9223372036854775808", "-9223372036854775808", "-9223372036854775809",
		"18446744073709551616", "18446744073709551617", "92233720368547758.08",
		"\u0661", "1\u0662", "\uff11", "1\xff", "\xff", "\x001", "1\x00", "\u22121", "1\u066b5",
		strings.Repeat("9", 1000000), strings.Repeat("0", 1000000), "1." + strings.Repeat("0", 1000000),
		"0" + strings.Repeat("0", 100) + ".5", strings.Repeat("1.", 1000),
	}
	for _, s := range texts {
		if d, err := Parse(s); err != api.ErrForm || d != (api.Dec{}) {
			t.Errorf("Parse(%.40q) = %v, %v, want ErrForm", s, d, err)
		}
	}
}

// With DE1: of all short texts, those that Parse takes are those that Text tells.
func TestParseShortTextsDE1(t *testing.T) {
	var grow func(s string, more int)
	grow = func(s string, more int) {
		d, err := Parse(s)
		switch {
		case err == nil && (Check(d) != nil || Text(d) != s):
			t.Errorf("Parse(%q) = %v, of which the text is %q", s, d, Text(d))
		case err == nil != isText(s):
			t.Errorf("Parse(%q): %v", s, err)
		}
		if more == 0 {
			return
		}
		for _, c := range "-+.019_e" {
			grow(s+string(c), more-1)
		}
	}
	grow("", 6)
}

// isText tells if a short text is that of a number, by its bytes.
func isText(s string) bool {
	number, negative := strings.CutPrefix(s, "-")
	whole, part, point := strings.Cut(number, ".")
	onlyDigits := strings.Trim(whole+part, "0123456789") == ""
	return onlyDigits && whole != "" && (whole == "0" || whole[0] != '0') &&
		(!point || part != "") && (!negative || strings.Trim(number, "0.") != "")
}

// With DE2: values are compared, not coefficients.
func TestLessAndSameDE2(t *testing.T) {
	cases := []struct {
		a, b  api.Dec
		order int
	}{
		{api.Dec{}, api.Dec{}, 0},
		{api.Dec{}, api.Dec{Scale: 9}, 0},
		{api.Dec{Coef: 15, Scale: 1}, api.Dec{Coef: 2}, -1},
		{api.Dec{Coef: 20, Scale: 1}, api.Dec{Coef: 2}, 0},
		{api.Dec{Coef: 2}, api.Dec{Coef: 2000000000, Scale: 9}, 0},
		{api.Dec{Coef: 2}, api.Dec{Coef: 2000000001, Scale: 9}, -1},
		{api.Dec{Coef: -2}, api.Dec{Coef: -2000000001, Scale: 9}, 1},
		{api.Dec{Coef: -5, Scale: 1}, api.Dec{Coef: 5, Scale: 1}, -1},
		{api.Dec{Coef: -5, Scale: 1}, api.Dec{}, -1},
		{api.Dec{Coef: -5, Scale: 1}, api.Dec{Coef: -4, Scale: 1}, -1},
		{api.Dec{Coef: -15, Scale: 1}, api.Dec{Coef: -1}, -1},
		{api.Dec{Coef: -1}, api.Dec{Coef: -999, Scale: 3}, -1},
		{api.Dec{Coef: 5, Scale: 2}, api.Dec{Coef: 5, Scale: 1}, -1},
		{api.Dec{Coef: -5, Scale: 2}, api.Dec{Coef: -5, Scale: 1}, 1},
		{api.Dec{Coef: api.MaxCoef}, api.Dec{Coef: api.MaxCoef, Scale: 9}, 1},
		{api.Dec{Coef: -api.MaxCoef}, api.Dec{Coef: 1, Scale: 9}, -1},
		{api.Dec{Coef: 1000000}, api.Dec{Coef: api.MaxCoef, Scale: 9}, 0},
		{api.Dec{Coef: 18446744074}, api.Dec{Coef: 1, Scale: 9}, 1},
	}
	for _, c := range cases {
		checkOrder(t, c.a, c.b, c.order)
		checkOrder(t, c.b, c.a, -c.order)
	}
	numbers, random := validNumbers(), rand.New(rand.NewSource(1))
	for _, a := range numbers {
		checkOrder(t, a, a, 0)
		for range 200 {
			b := numbers[random.Intn(len(numbers))]
			checkOrder(t, a, b, value(a).Cmp(value(b)))
		}
	}
}

func checkOrder(t *testing.T, a, b api.Dec, order int) {
	t.Helper()
	if got := Less(a, b); got != (order < 0) {
		t.Errorf("Less(%v, %v) = %v", a, b, got)
	}
	if got := Same(a, b); got != (order == 0) {
		t.Errorf("Same(%v, %v) = %v", a, b, got)
	}
}

// With DE2: Less and Same are false if Check refuses one of the numbers.
func TestLessAndSameOfInvalidDE2(t *testing.T) {
	for _, d := range invalidNumbers() {
		others := append(invalidNumbers(), api.Dec{}, api.Dec{Coef: 1}, api.Dec{Coef: api.MaxCoef}, api.Dec{Coef: -api.MaxCoef})
		for _, other := range others {
			if Less(d, other) || Less(other, d) || Same(d, other) || Same(other, d) {
				t.Errorf("%v and %v are compared", d, other)
			}
		}
	}
}

// With DE2: each way, for both signs and each place between two numbers.
func TestRoundWaysDE2(t *testing.T) {
	coefs := []int{-30, -29, -26, -25, -24, -21, -20, -19, -15, -11, -10, -6, -5, -4, -1, 0,
		1, 4, 5, 6, 10, 11, 15, 19, 20, 21, 24, 25, 26, 29, 30}
	wants := []struct {
		name  string
		way   int
		coefs []int
	}{
		{"Down", api.Down, []int{-3, -2, -2, -2, -2, -2, -2, -1, -1, -1, -1, 0, 0, 0, 0, 0,
			0, 0, 0, 0, 1, 1, 1, 1, 2, 2, 2, 2, 2, 2, 3}},
		{"Floor", api.Floor, []int{-3, -3, -3, -3, -3, -3, -2, -2, -2, -2, -1, -1, -1, -1, -1, 0,
			0, 0, 0, 0, 1, 1, 1, 1, 2, 2, 2, 2, 2, 2, 3}},
		{"Ceil", api.Ceil, []int{-3, -2, -2, -2, -2, -2, -2, -1, -1, -1, -1, 0, 0, 0, 0, 0,
			1, 1, 1, 1, 1, 2, 2, 2, 2, 3, 3, 3, 3, 3, 3}},
		{"Up", api.Up, []int{-3, -3, -3, -3, -2, -2, -2, -2, -2, -1, -1, -1, -1, 0, 0, 0,
			0, 0, 1, 1, 1, 1, 2, 2, 2, 2, 2, 3, 3, 3, 3}},
		{"Even", api.Even, []int{-3, -3, -3, -2, -2, -2, -2, -2, -2, -1, -1, -1, 0, 0, 0, 0,
			0, 0, 0, 1, 1, 1, 2, 2, 2, 2, 2, 2, 3, 3, 3}},
	}
	for _, want := range wants {
		for i, coef := range coefs {
			d := api.Dec{Coef: coef, Scale: 4}
			got, err := Round(d, 3, want.way)
			if got != (api.Dec{Coef: want.coefs[i], Scale: 3}) || err != nil {
				t.Errorf("Round(%v, 3, %s) = %v, %v, want Coef %d", d, want.name, got, err, want.coefs[i])
			}
		}
	}
}

// rounded tells what Round has to tell, by exact arithmetic.
func rounded(d api.Dec, scale, way int) (api.Dec, error) {
	exact := new(big.Rat).Mul(value(d), new(big.Rat).SetInt(power(scale)))
	if exact.IsInt() {
		return numberOf(exact.Num(), scale)
	}
	// Div rounds down, as a divisor is greater than 0.
	floor := new(big.Int).Div(exact.Num(), exact.Denom())
	ceil := new(big.Int).Add(floor, big.NewInt(1))
	middle := new(big.Rat).SetFrac(new(big.Int).Add(floor, ceil), big.NewInt(2))
	nearer := exact.Cmp(middle)
	upward := false
	switch way {
	case api.Down:
		upward = d.Coef < 0
	case api.Floor:
	case api.Ceil:
		upward = true
	case api.Up:
		upward = nearer > 0 || nearer == 0 && d.Coef > 0
	case api.Even:
		upward = nearer > 0 || nearer == 0 && ceil.Bit(0) == 0
	}
	if upward {
		return numberOf(ceil, scale)
	}
	return numberOf(floor, scale)
}

// With DE2: every scale and way, for numbers about the bounds, halves and powers of ten.
func TestRoundExactDE2(t *testing.T) {
	for _, d := range validNumbers() {
		for scale := range api.MaxScale + 1 {
			for way := api.Down; way <= api.Even; way++ {
				want, wantErr := rounded(d, scale, way)
				if got, err := Round(d, scale, way); got != want || err != wantErr {
					t.Errorf("Round(%v, %d, %d) = %v, %v, want %v, %v", d, scale, way, got, err, want, wantErr)
				}
			}
		}
	}
}

// With DE2: the errors of Round, in their order.
func TestRoundErrorsDE2(t *testing.T) {
	scales := []int{math.MinInt, -1, api.MaxScale + 1, 20, 64, math.MaxInt}
	ways := []int{math.MinInt, -1, 0, 6, math.MaxInt}
	check := func(d api.Dec, scale, way int, want error) {
		t.Helper()
		if got, err := Round(d, scale, way); got != (api.Dec{}) || err != want {
			t.Errorf("Round(%v, %d, %d) = %v, %v, want %v", d, scale, way, got, err, want)
		}
	}
	for _, d := range invalidNumbers() {
		check(d, 0, api.Even, api.ErrRange)
		check(d, 0, 6, api.ErrRange)
		check(d, -1, 0, api.ErrRange)
	}
	for _, scale := range scales {
		check(api.Dec{Coef: 1}, scale, api.Even, api.ErrRange)
		check(api.Dec{}, scale, api.Down, api.ErrRange)
		check(api.Dec{Coef: 1}, scale, 0, api.ErrRange)
	}
	for _, way := range ways {
		check(api.Dec{Coef: 1}, 0, way, api.ErrForm)
		check(api.Dec{Coef: 15, Scale: 1}, 0, way, api.ErrForm)
		check(api.Dec{Coef: api.MaxCoef}, 1, way, api.ErrForm)
	}
	check(api.Dec{Coef: api.MaxCoef}, 1, api.Down, api.ErrRange)
	check(api.Dec{Coef: -api.MaxCoef}, 9, api.Floor, api.ErrRange)
	check(api.Dec{Coef: api.MaxCoef/10 + 1, Scale: 8}, 9, api.Even, api.ErrRange)
	// 18446744074 * 10^9 is 290448384 in 64 bits.
	check(api.Dec{Coef: 18446744074}, 9, api.Even, api.ErrRange)
	got, err := Round(api.Dec{Coef: -api.MaxCoef / 10, Scale: 8}, 9, api.Even)
	if got != (api.Dec{Coef: -api.MaxCoef, Scale: 9}) || err != nil {
		t.Errorf("Round to -MaxCoef = %v, %v", got, err)
	}
}

// With DE2: sums, with the greater scale.
func TestAddDE2(t *testing.T) {
	cases := []struct{ a, b, sum api.Dec }{
		{api.Dec{}, api.Dec{}, api.Dec{}},
		{api.Dec{Coef: 5, Scale: 1}, api.Dec{Coef: 1}, api.Dec{Coef: 15, Scale: 1}},
		{api.Dec{Coef: 5, Scale: 1}, api.Dec{Coef: 5, Scale: 1}, api.Dec{Coef: 10, Scale: 1}},
		{api.Dec{Coef: 5, Scale: 1}, api.Dec{Coef: -5, Scale: 1}, api.Dec{Scale: 1}},
		{api.Dec{Coef: 1}, api.Dec{Scale: 9}, api.Dec{Coef: 1000000000, Scale: 9}},
		{api.Dec{Coef: -1}, api.Dec{Coef: 1, Scale: 9}, api.Dec{Coef: -999999999, Scale: 9}},
		{api.Dec{Coef: 125, Scale: 2}, api.Dec{Coef: -25, Scale: 1}, api.Dec{Coef: -125, Scale: 2}},
		{api.Dec{Coef: api.MaxCoef}, api.Dec{Coef: -api.MaxCoef}, api.Dec{}},
		{api.Dec{Coef: api.MaxCoef - 1}, api.Dec{Coef: 1}, api.Dec{Coef: api.MaxCoef}},
		// With the greater scale, the first one has a coefficient that is too great, but not the sum.
		{api.Dec{Coef: 2000000}, api.Dec{Coef: -api.MaxCoef, Scale: 9}, api.Dec{Coef: api.MaxCoef, Scale: 9}},
		{api.Dec{Coef: -1000001}, api.Dec{Coef: 1000000000, Scale: 9}, api.Dec{Coef: -api.MaxCoef, Scale: 9}},
	}
	for _, c := range cases {
		checkSum(t, c.a, c.b, c.sum, nil)
		checkSum(t, c.b, c.a, c.sum, nil)
	}
}

func checkSum(t *testing.T, a, b, sum api.Dec, want error) {
	t.Helper()
	if got, err := Add(a, b); got != sum || err != want {
		t.Errorf("Add(%v, %v) = %v, %v, want %v, %v", a, b, got, err, sum, want)
	}
}

// With DE2: sums of numbers about the bounds, by exact arithmetic.
func TestAddExactDE2(t *testing.T) {
	numbers, random := validNumbers(), rand.New(rand.NewSource(2))
	for range 100000 {
		a, b := numbers[random.Intn(len(numbers))], numbers[random.Intn(len(numbers))]
		scale := max(a.Scale, b.Scale)
		exact := new(big.Rat).Add(value(a), value(b))
		sum, err := numberOf(exact.Mul(exact, new(big.Rat).SetInt(power(scale))).Num(), scale)
		checkSum(t, a, b, sum, err)
	}
}

// With DE2: the errors of Add.
func TestAddErrorsDE2(t *testing.T) {
	for _, d := range invalidNumbers() {
		checkSum(t, d, api.Dec{}, api.Dec{}, api.ErrRange)
		checkSum(t, api.Dec{}, d, api.Dec{}, api.ErrRange)
		checkSum(t, d, d, api.Dec{}, api.ErrRange)
	}
	cases := []struct{ a, b api.Dec }{
		{api.Dec{Coef: api.MaxCoef}, api.Dec{Coef: 1}},
		{api.Dec{Coef: -api.MaxCoef}, api.Dec{Coef: -1}},
		{api.Dec{Coef: api.MaxCoef}, api.Dec{Coef: api.MaxCoef}},
		{api.Dec{Coef: -api.MaxCoef}, api.Dec{Coef: -api.MaxCoef}},
		{api.Dec{Coef: api.MaxCoef}, api.Dec{Scale: 1}},
		{api.Dec{Coef: 2000000}, api.Dec{Coef: 1 - api.MaxCoef, Scale: 9}},
		{api.Dec{Coef: 2000001}, api.Dec{Coef: -api.MaxCoef, Scale: 9}},
		// In 64 bits, 18446744074 * 10^9 is 290448384.
		{api.Dec{Coef: 18446744074}, api.Dec{Scale: 9}},
		{api.Dec{Coef: api.MaxCoef}, api.Dec{Coef: -api.MaxCoef, Scale: 9}},
	}
	for _, c := range cases {
		checkSum(t, c.a, c.b, api.Dec{}, api.ErrRange)
		checkSum(t, c.b, c.a, api.Dec{}, api.ErrRange)
	}
}

// With DE2 and DE1: what Parse takes can be rounded to what it is.
func TestRoundOwnScaleDE2(t *testing.T) {
	for _, d := range validNumbers() {
		for way := api.Down; way <= api.Even; way++ {
			if got, err := Round(d, d.Scale, way); got != d || err != nil {
				t.Errorf("Round(%s, its scale, %s) = %v, %v", Text(d), strconv.Itoa(way), got, err)
			}
		}
	}
}
