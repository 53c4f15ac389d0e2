package nout

import (
	"math"
	"math/big"
	"math/rand"
	"strings"
	"testing"

	"linguister/api"
)

var (
	english = api.Sym{Point: '.', Comma: ','}
	german  = api.Sym{Point: ',', Comma: '.'}
	plain   = api.Pat{MinInt: 1, MaxFrac: 6}
)

// signs tells all valid signs.
func signs() []api.Sym {
	var list []api.Sym
	for _, point := range []byte(".,'_") {
		for _, comma := range []byte(".,'_") {
			if point != comma {
				list = append(list, api.Sym{Point: point, Comma: comma})
			}
		}
	}
	return list
}

// checkFormat looks at the text that Format tells.
func checkFormat(t *testing.T, p api.Pat, y api.Sym, d api.Dec, text string) {
	t.Helper()
	if s, err := Format(p, y, d); s != text || err != nil {
		t.Errorf("Format(%v, %c, %v) = %q %v, want %q", p, y, d, s, err, text)
	}
}

// checkRead looks at the number that Read tells.
func checkRead(t *testing.T, p api.Pat, y api.Sym, s string, d api.Dec) {
	t.Helper()
	if got, err := Read(p, y, s); got != d || err != nil {
		t.Errorf("Read(%v, %c, %q) = %v %v, want %v", p, y, s, got, err, d)
	}
}

// checkPair looks at a number and its text, both ways. The number has the
// smallest Scale of all that have the text.
func checkPair(t *testing.T, p api.Pat, y api.Sym, d api.Dec, text string) {
	t.Helper()
	checkFormat(t, p, y, d, text)
	checkRead(t, p, y, text, d)
}

// checkRefused looks at what Read tells of a text of no number.
func checkRefused(t *testing.T, p api.Pat, y api.Sym, s string) {
	t.Helper()
	if d, err := Read(p, y, s); d != (api.Dec{}) || err != api.ErrForm {
		t.Errorf("Read(%v, %c, %.60q) = %v %v, want %v", p, y, s, d, err, api.ErrForm)
	}
}

// With NO1: the signs are two of four bytes.
func TestSignsNO1(t *testing.T) {
	valid := 0
	for point := range 256 {
		for comma := range 256 {
			y := api.Sym{Point: byte(point), Comma: byte(comma)}
			const bytes = ".,'_"
			var want error = api.ErrForm
			if strings.IndexByte(bytes, y.Point) >= 0 && strings.IndexByte(bytes, y.Comma) >= 0 && point != comma {
				valid++
				want = nil
			}
			if err := Check(y); err != want {
				t.Errorf("Check(%q, %q) = %v, want %v", y.Point, y.Comma, err, want)
			}
		}
	}
	if valid != 12 {
		t.Errorf("%d signs are valid, want 12", valid)
	}
}

// With NO1 and NO2: numbers and their texts.
func TestTexts(t *testing.T) {
	cases := []struct {
		p    api.Pat
		y    api.Sym
		d    api.Dec
		text string
	}{
		{plain, english, api.Dec{}, "0"},
		{plain, english, api.Dec{Coef: 7}, "7"},
		{plain, english, api.Dec{Coef: -7}, "-7"},
		{plain, english, api.Dec{Coef: 5, Scale: 1}, "0.5"},
		{plain, english, api.Dec{Coef: -5, Scale: 1}, "-0.5"},
		{plain, english, api.Dec{Coef: -123456, Scale: 3}, "-123.456"},
		{plain, english, api.Dec{Coef: 1, Scale: 6}, "0.000001"},
		{plain, english, api.Dec{Coef: 101, Scale: 2}, "1.01"},
		{plain, english, api.Dec{Coef: 1200300}, "1200300"},

		// The integer part has zeros in front, up to MinInt digits.
		{api.Pat{MinInt: 2}, english, api.Dec{}, "00"},
		{api.Pat{MinInt: 2}, english, api.Dec{Coef: 7}, "07"},
		{api.Pat{MinInt: 2}, english, api.Dec{Coef: -12}, "-12"},
		{api.Pat{MinInt: 2}, english, api.Dec{Coef: 123}, "123"},
		{api.Pat{MinInt: 9}, english, api.Dec{Coef: -12345678}, "-012345678"},
		{api.Pat{MinInt: 9}, english, api.Dec{Coef: 1234567890}, "1234567890"},
		{api.Pat{MinInt: 3, MaxFrac: 2}, english, api.Dec{Coef: 25, Scale: 2}, "000.25"},

		// They are in groups as other digits are.
		{api.Pat{MinInt: 4, Group: 3}, english, api.Dec{Coef: 1}, "0,001"},
		{api.Pat{MinInt: 9, Group: 3}, german, api.Dec{Coef: 1234}, "000.001.234"},
		{api.Pat{MinInt: 6, Group: 3, Group2: 2}, english, api.Dec{Coef: -1}, "-0,00,001"},
		{api.Pat{MinInt: 1, Group: 3}, english, api.Dec{Coef: 123}, "123"},
		{api.Pat{MinInt: 1, Group: 3}, english, api.Dec{Coef: 1234}, "1,234"},
		{api.Pat{MinInt: 1, Group: 3}, english, api.Dec{Coef: -123456789}, "-123,456,789"},
		{api.Pat{MinInt: 1, Group: 3, Group2: 2}, english, api.Dec{Coef: 123456789}, "12,34,56,789"},
		{api.Pat{MinInt: 1, Group: 1, Group2: 4}, english, api.Dec{Coef: 123456789}, "1234,5678,9"},
		{api.Pat{MinInt: 1, Group: 4}, api.Sym{Point: '.', Comma: '\''}, api.Dec{Coef: 123456789}, "1'2345'6789"},
		{api.Pat{MinInt: 1, Group: 2}, api.Sym{Point: '\'', Comma: '_'}, api.Dec{Coef: 12345}, "1_23_45"},

		// There are no groups behind the point.
		{api.Pat{MinInt: 1, MaxFrac: 6, Group: 1}, english, api.Dec{Coef: 123456, Scale: 4}, "1,2.3456"},
		{api.Pat{MinInt: 1, MaxFrac: 6, Group: 3}, api.Sym{Point: '_', Comma: ','}, api.Dec{Coef: 1234567891, Scale: 6}, "1,234_567891"},

		// Behind the point are at least MinFrac digits.
		{api.Pat{MinInt: 1, MinFrac: 2, MaxFrac: 2}, english, api.Dec{}, "0.00"},
		{api.Pat{MinInt: 1, MinFrac: 2, MaxFrac: 2}, english, api.Dec{Coef: -3}, "-3.00"},
		{api.Pat{MinInt: 1, MinFrac: 2, MaxFrac: 2}, english, api.Dec{Coef: 35, Scale: 1}, "3.50"},
		{api.Pat{MinInt: 1, MinFrac: 2, MaxFrac: 4}, german, api.Dec{Coef: 3501, Scale: 3}, "3,501"},
		{api.Pat{MinInt: 1, MinFrac: 6, MaxFrac: 6}, german, api.Dec{Coef: 35, Scale: 1}, "3,500000"},

		{api.Pat{Prefix: "$", MinInt: 1, MinFrac: 2, MaxFrac: 2, Group: 3}, english, api.Dec{Coef: -123450, Scale: 1}, "-$12,345.00"},
		{api.Pat{Suffix: "%", MinInt: 1, MaxFrac: 1}, english, api.Dec{Coef: 125, Scale: 1}, "12.5%"},
		{api.Pat{Prefix: "EUR ", Suffix: " net", MinInt: 1}, german, api.Dec{Coef: -7}, "-EUR 7 net"},
		{api.Pat{Prefix: "aaaaa", Suffix: "aaaaa", MinInt: 1, MinFrac: 1, MaxFrac: 1}, german, api.Dec{Coef: 7}, "aaaaa7,0aaaaa"},
		{api.Pat{Prefix: "     ", Suffix: "     ", MinInt: 1}, german, api.Dec{}, "     0     "},

		// The greatest and the least numbers, with more zeros than a number has digits.
		{plain, english, api.Dec{Coef: api.MaxCoef}, "1000000000000000"},
		{plain, english, api.Dec{Coef: -api.MaxCoef}, "-1000000000000000"},
		{plain, english, api.Dec{Coef: api.MaxCoef - 1, Scale: 6}, "999999999.999999"},
		{api.Pat{MinInt: 9, MinFrac: 6, MaxFrac: 6, Group: 3}, english, api.Dec{Coef: api.MaxCoef}, "1,000,000,000,000,000.000000"},
		{api.Pat{MinInt: 9, MinFrac: 6, MaxFrac: 6, Group: 3}, english, api.Dec{Coef: 1 - api.MaxCoef}, "-999,999,999,999,999.000000"},
		{api.Pat{MinInt: 9, MinFrac: 6, MaxFrac: 6}, english, api.Dec{Coef: api.MaxCoef - 1, Scale: 1}, "99999999999999.900000"},
	}
	for _, c := range cases {
		if c.d.Coef%10 == 0 && c.d.Scale > 0 {
			checkFormat(t, c.p, c.y, c.d, c.text)
			continue
		}
		checkPair(t, c.p, c.y, c.d, c.text)
	}
}

// With NO1: a number loses digits to be of MaxFrac digits behind the point, and
// zeros at its end.
func TestRoundsNO1(t *testing.T) {
	whole, one, money := api.Pat{MinInt: 1}, api.Pat{MinInt: 1, MaxFrac: 1}, api.Pat{MinInt: 1, MinFrac: 2, MaxFrac: 2}
	cases := []struct {
		p    api.Pat
		d    api.Dec
		text string
	}{
		// Halfway to the last digit that is even.
		{whole, api.Dec{Coef: 5, Scale: 1}, "0"},
		{whole, api.Dec{Coef: 15, Scale: 1}, "2"},
		{whole, api.Dec{Coef: 25, Scale: 1}, "2"},
		{whole, api.Dec{Coef: -15, Scale: 1}, "-2"},
		{whole, api.Dec{Coef: -25, Scale: 1}, "-2"},
		{whole, api.Dec{Coef: 251, Scale: 2}, "3"},
		{whole, api.Dec{Coef: 249, Scale: 2}, "2"},
		{one, api.Dec{Coef: 225, Scale: 2}, "2.2"},
		{one, api.Dec{Coef: 235, Scale: 2}, "2.4"},
		{one, api.Dec{Coef: 2350000001, Scale: 9}, "2.4"},
		{one, api.Dec{Coef: 2250000001, Scale: 9}, "2.3"},
		{money, api.Dec{Coef: 1005, Scale: 3}, "1.00"},
		{money, api.Dec{Coef: -1015, Scale: 3}, "-1.02"},

		// Digits that are carried to.
		{whole, api.Dec{Coef: 99, Scale: 1}, "10"},
		{whole, api.Dec{Coef: -995, Scale: 1}, "-100"},
		{one, api.Dec{Coef: 96, Scale: 2}, "1"},
		{one, api.Dec{Coef: 996, Scale: 2}, "10"},
		{money, api.Dec{Coef: 999999, Scale: 3}, "1000.00"},
		{api.Pat{MinInt: 1, Group: 3}, api.Dec{Coef: 9999, Scale: 1}, "1,000"},
		{api.Pat{MinInt: 3}, api.Dec{Coef: 996, Scale: 1}, "100"},

		// Nought is not negative, whatever it was before.
		{whole, api.Dec{Coef: -4, Scale: 1}, "0"},
		{whole, api.Dec{Coef: -5, Scale: 1}, "0"},
		{whole, api.Dec{Coef: -6, Scale: 1}, "-1"},
		{one, api.Dec{Coef: -4, Scale: 2}, "0"},
		{one, api.Dec{Coef: -5, Scale: 2}, "0"},
		{one, api.Dec{Coef: -6, Scale: 2}, "-0.1"},
		{money, api.Dec{Coef: -1, Scale: 9}, "0.00"},
		{api.Pat{Prefix: "$", MinInt: 2}, api.Dec{Coef: -1, Scale: 3}, "$00"},

		// Zeros at the end, as they are, or after rounding.
		{one, api.Dec{Coef: 100, Scale: 2}, "1"},
		{one, api.Dec{Coef: 10, Scale: 1}, "1"},
		{one, api.Dec{Coef: 0, Scale: 1}, "0"},
		{one, api.Dec{Coef: 0, Scale: 9}, "0"},
		{money, api.Dec{Coef: 1000000000, Scale: 9}, "1.00"},
		{money, api.Dec{Coef: 1200, Scale: 3}, "1.20"},
		{plain, api.Dec{Coef: -1200, Scale: 3}, "-1.2"},
		{plain, api.Dec{Coef: 1000000500, Scale: 9}, "1"},
		{plain, api.Dec{Coef: 1000001500, Scale: 9}, "1.000002"},
		{plain, api.Dec{Coef: 1299999999, Scale: 9}, "1.3"},
		{plain, api.Dec{Coef: 100, Scale: 0}, "100"},
		{plain, api.Dec{Coef: 1000, Scale: 1}, "100"},

		{whole, api.Dec{Coef: api.MaxCoef, Scale: 9}, "1000000"},
		{whole, api.Dec{Coef: api.MaxCoef - 1, Scale: 9}, "1000000"},
		{plain, api.Dec{Coef: 1 - api.MaxCoef, Scale: 9}, "-1000000"},
		{plain, api.Dec{Coef: 1 - api.MaxCoef, Scale: 7}, "-100000000"},
		{one, api.Dec{Coef: api.MaxCoef - 6, Scale: 2}, "9999999999999.9"},
	}
	for _, c := range cases {
		checkFormat(t, c.p, english, c.d, c.text)
	}
}

// patterns tells all valid patterns without a prefix and a suffix.
func patterns() []api.Pat {
	var list []api.Pat
	for minInt := 1; minInt <= 9; minInt++ {
		for maxFrac := 0; maxFrac <= 6; maxFrac++ {
			for minFrac := 0; minFrac <= maxFrac; minFrac++ {
				p := api.Pat{MinInt: minInt, MinFrac: minFrac, MaxFrac: maxFrac}
				list = append(list, p)
				for p.Group = 1; p.Group <= 4; p.Group++ {
					for p.Group2 = 0; p.Group2 <= 4; p.Group2++ {
						list = append(list, p)
					}
				}
			}
		}
	}
	return list
}

// rounded tells how many units of the last of so many digits d has, halfway to
// an even one: a half more, then down, and one less if that was odd and exact.
func rounded(d api.Dec, frac int) *big.Int {
	ten, two := big.NewInt(10), big.NewInt(2)
	number := new(big.Int).Mul(big.NewInt(int64(d.Coef)), new(big.Int).Exp(ten, big.NewInt(int64(frac)), nil))
	unit := new(big.Int).Exp(ten, big.NewInt(int64(d.Scale)), nil)
	number.Mul(number, two).Add(number, unit)
	unit.Mul(unit, two)
	quotient, rest := number.DivMod(number, unit, new(big.Int))
	if rest.Sign() == 0 && quotient.Bit(0) == 1 {
		quotient.Sub(quotient, big.NewInt(1))
	}
	return quotient
}

// expected tells the text of a number, from its end to its start, digit by digit.
func expected(p api.Pat, y api.Sym, d api.Dec) string {
	number := rounded(d, p.MaxFrac)
	negative := number.Sign() < 0
	number.Abs(number)
	rest := new(big.Int)
	digit := func() string {
		number.DivMod(number, big.NewInt(10), rest)
		return rest.String()
	}
	text, shown := "", false
	for place := p.MaxFrac; place > 0; place-- {
		c := digit()
		if shown = shown || c != "0" || place <= p.MinFrac; shown {
			text = c + text
		}
	}
	if shown {
		text = string(rune(y.Point)) + text
	}
	left := p.Group
	for count := 0; count < p.MinInt || number.Sign() > 0; count++ {
		if count > 0 && p.Group > 0 && left == 0 {
			text = string(rune(y.Comma)) + text
			if left = p.Group2; left == 0 {
				left = p.Group
			}
		}
		text = digit() + text
		left--
	}
	text = p.Prefix + text + p.Suffix
	if negative {
		text = "-" + text
	}
	return text
}

// smallest tells the number of the smallest Scale that has the text of d.
func smallest(p api.Pat, d api.Dec) api.Dec {
	number, scale := rounded(d, p.MaxFrac), p.MaxFrac
	for ; scale > 0; scale-- {
		quotient, rest := new(big.Int).QuoRem(number, big.NewInt(10), new(big.Int))
		if rest.Sign() != 0 {
			break
		}
		number = quotient
	}
	return api.Dec{Coef: int(number.Int64()), Scale: scale}
}

// someDec tells a number of any size, often a short one or one with zeros.
func someDec(r *rand.Rand) api.Dec {
	bound := 1
	for range r.Intn(16) {
		bound *= 10
	}
	coef := r.Intn(2*bound+1) - bound
	for n := r.Intn(4); n > 0; n-- {
		if coef > -api.MaxCoef/10 && coef < api.MaxCoef/10 {
			coef = coef*10 + 5*r.Intn(2)
		}
	}
	return api.Dec{Coef: coef, Scale: r.Intn(10)}
}

// With NO1 and NO2: all patterns and signs, with numbers of all sizes.
func TestAllPatterns(t *testing.T) {
	r := rand.New(rand.NewSource(11))
	affixes := []string{"", "", "$", " kg", "%", "a Z", "     "}
	all := signs()
	for _, p := range patterns() {
		for range 60 {
			p.Prefix, p.Suffix = affixes[r.Intn(len(affixes))], affixes[r.Intn(len(affixes))]
			y, d := all[r.Intn(len(all))], someDec(r)
			text := expected(p, y, d)
			checkFormat(t, p, y, d, text)
			checkRead(t, p, y, text, smallest(p, d))
		}
	}
}

// With NO1: all small numbers, with few patterns.
func TestSmallNumbersNO1(t *testing.T) {
	for maxFrac := range 4 {
		for minFrac := range maxFrac + 1 {
			p := api.Pat{MinInt: 2, MinFrac: minFrac, MaxFrac: maxFrac, Group: 1, Suffix: "x"}
			for coef := -2200; coef <= 2200; coef++ {
				for scale := range 10 {
					d := api.Dec{Coef: coef, Scale: scale}
					checkFormat(t, p, german, d, expected(p, german, d))
				}
			}
		}
	}
}

// texts tells all texts of these bytes that are no longer.
func texts(bytes string, longest int) []string {
	list := []string{""}
	last := list
	for range longest {
		var next []string
		for _, s := range last {
			for i := range len(bytes) {
				next = append(next, s+bytes[i:i+1])
			}
		}
		list, last = append(list, next...), next
	}
	return list
}

// With NO2: Read tells a number of a short text if there is one, the one with
// the smallest Scale, and ErrForm of each other text.
func TestShortTextsNO2(t *testing.T) {
	short := texts("-015.,$", 6)
	var coefs []int
	for coef := -999999; coef <= 999999; coef++ {
		if few(coef) {
			coefs = append(coefs, coef)
		}
	}
	patterns := []api.Pat{
		{MinInt: 1},
		{MinInt: 2},
		{MinInt: 1, MaxFrac: 2},
		{MinInt: 1, MinFrac: 1, MaxFrac: 2},
		{MinInt: 1, MinFrac: 2, MaxFrac: 2},
		{MinInt: 1, MaxFrac: 1, Group: 1},
		{MinInt: 2, MinFrac: 1, MaxFrac: 1, Group: 2, Group2: 1},
		{Prefix: "$", MinInt: 1, MaxFrac: 1},
		{Suffix: "$", MinInt: 1, MinFrac: 1, MaxFrac: 1},
		{Prefix: "$", Suffix: "$", MinInt: 2, Group: 1},
	}
	for _, p := range patterns {
		// With more digits the texts would be longer. Of the numbers that have
		// the same text, the last one stays in the map.
		numbers := map[string]api.Dec{}
		for scale := 4; scale >= 0; scale-- {
			for _, coef := range coefs {
				d := api.Dec{Coef: coef, Scale: scale}
				numbers[expected(p, english, d)] = d
			}
		}
		found := 0
		for _, s := range short {
			d, ok := numbers[s]
			if !ok {
				checkRefused(t, p, english, s)
				continue
			}
			found++
			checkRead(t, p, english, s, d)
		}
		if found == 0 {
			t.Errorf("no short text is of a number with %v", p)
		}
	}
}

// few tells if a number has no other digits than 0, 1 and 5.
func few(n int) bool {
	for n = max(n, -n); n > 0; n /= 10 {
		if c := n % 10; c != 0 && c != 1 && c != 5 {
			return false
		}
	}
	return true
}

// With NO2: Read tells the number of the smallest Scale.
func TestSmallestScaleNO2(t *testing.T) {
	money := api.Pat{MinInt: 1, MinFrac: 2, MaxFrac: 4, Group: 3}
	cases := []struct {
		text string
		d    api.Dec
	}{
		{"0.00", api.Dec{}},
		{"1.00", api.Dec{Coef: 1}},
		{"-10.00", api.Dec{Coef: -10}},
		{"1,000.00", api.Dec{Coef: 1000}},
		{"1.50", api.Dec{Coef: 15, Scale: 1}},
		{"1.05", api.Dec{Coef: 105, Scale: 2}},
		{"1.005", api.Dec{Coef: 1005, Scale: 3}},
		{"-0.0001", api.Dec{Coef: -1, Scale: 4}},
	}
	for _, c := range cases {
		checkPair(t, money, english, c.d, c.text)
	}
}

// With NO2: texts that are nearly those of numbers.
func TestRefusedNO2(t *testing.T) {
	cases := []struct {
		p     api.Pat
		y     api.Sym
		texts []string
	}{
		{plain, english, []string{
			"", "-", "+1", "--1", "-0", "-0.0", "00", "01", "-01", "1.", ".5", "-.5", ".", "1.0", "1.50", "0.1234567",
			"1.2.3", "1,5", "1,234", "1..5", "1.-5", "1.+5", "- 1", " 1", "1 ", "1\n", "1e3", "0x1", "1_000", "1.5_0", "1-", "x",
			"1\x00", "١", "１", "1\xff", "1.5.", "-1.5-", "1.0000001", "1.0000000",
		}},
		{api.Pat{MinInt: 1}, english, []string{"1.0", "1.", "1.5", "0.0", "1,000"}},
		{api.Pat{MinInt: 3, MinFrac: 2, MaxFrac: 3}, german, []string{
			"1,50", "01,50", "0001,50", "001,5", "001,500", "001,5005", "001", "001,", "001.50", "-000,00", "1.000,00",
		}},
		{api.Pat{MinInt: 1, Group: 3}, english, []string{
			"1234", "12,34", ",123", "0,123", "1,,234", "1,234,", "-,234", "1,2345", "1,234,56", "12,3,456", "1'234", "1.234", "-1234",
		}},
		{api.Pat{MinInt: 4, Group: 3}, english, []string{"0001", "1", "001", "00,001", "0,0001", "-0,000"}},
		{api.Pat{MinInt: 1, MaxFrac: 3, Group: 3, Group2: 2}, english, []string{"123,456", "1,234,567", "1.234,5", "1.2,3", "12,345.6,7"}},
		{api.Pat{Prefix: "$", Suffix: " a", MinInt: 1, MaxFrac: 1}, english, []string{
			"1", "$1", "1 a", "$ 1 a", "$1a", "$1 A", "$-1 a", "-$-1 a", "$1 a-", "$$1 a", "$1 a a", "$ a", "$", " a", "$1 a ", "$1. a", "1$ a", "-$0 a",
		}},
		{api.Pat{Suffix: "%", MinInt: 1}, english, []string{"1%%", "%", "%1", "1% ", "-%", "-0%"}},
		{api.Pat{MinInt: 1, MinFrac: 6, MaxFrac: 6}, api.Sym{Point: '\'', Comma: '_'}, []string{"1'00000", "1'0000000", "1.000000", "1_000000", "1"}},
	}
	for _, c := range cases {
		for _, s := range c.texts {
			checkRefused(t, c.p, c.y, s)
		}
	}
}

// With NO2: numbers that are too great, or have too many digits.
func TestGreatNumbersNO2(t *testing.T) {
	for _, s := range []string{
		"1000000000000001", "-1000000000000001", "9999999999999999", "10000000000000000", "1000000000000000.1",
		"999999999999999.9", "1000000000.000001", "-1000000000.000001", "9223372036854775807", "9223372036854775808",
		"-9223372036854775808", "18446744073709551617", "100000000000000000000000000000000000000",
	} {
		checkRefused(t, plain, english, s)
	}
	checkPair(t, plain, english, api.Dec{Coef: api.MaxCoef - 1, Scale: 1}, "99999999999999.9")
	checkPair(t, plain, english, api.Dec{Coef: 1 - api.MaxCoef, Scale: 6}, "-999999999.999999")
	checkRefused(t, api.Pat{MinInt: 1, Group: 3}, english, "1,000,000,000,000,001")
	checkRead(t, api.Pat{MinInt: 1, Group: 3, MinFrac: 6, MaxFrac: 6}, english, "1,000,000,000,000,000.000000", api.Dec{Coef: api.MaxCoef})
}

// With NO2: long texts are no numbers.
func TestLongTextsNO2(t *testing.T) {
	const long = 1 << 20
	for _, c := range []string{"0", "1", ".", ",", "-", "$", "x", "1,", ",1"} {
		run := strings.Repeat(c, long)
		for _, s := range []string{run, "-" + run, "1" + run, "1." + run, run + "1", run + ".5", "1,000" + run} {
			checkRefused(t, plain, english, s)
			checkRefused(t, api.Pat{MinInt: 1, MaxFrac: 1, Group: 3}, english, s)
			checkRefused(t, api.Pat{Prefix: "$", Suffix: "$", MinInt: 9, Group: 1}, english, s)
		}
	}
}

// checkErrors looks at the errors of Format and Read. Read is told a text of a number.
func checkErrors(t *testing.T, p api.Pat, y api.Sym, d api.Dec, wrong error) {
	t.Helper()
	if s, err := Format(p, y, d); s != "" || err != wrong {
		t.Errorf("Format(%v, %q, %v) = %q %v, want %v", p, y, d, s, err, wrong)
	}
	for _, s := range []string{"0", "1.5", "x", ""} {
		if got, err := Read(p, y, s); got != (api.Dec{}) || err != wrong {
			t.Errorf("Read(%v, %q, %q) = %v %v, want %v", p, y, s, got, err, wrong)
		}
	}
}

// With NO1 and NO2: what is wrong with the pattern comes first, then what is
// wrong with the signs, and then what is wrong with the number or the text.
func TestErrorOrder(t *testing.T) {
	ranges := []api.Pat{{}, {MinInt: 10}, {MinInt: 1, MaxFrac: 7}, {MinInt: 1, MinFrac: 2, MaxFrac: 1}, {MinInt: 1, Group: 5}, {MinInt: -1, Group: 3}}
	forms := []api.Pat{{Prefix: "-", MinInt: 1}, {Suffix: "sixsix", MinInt: 1}, {MinInt: 1, Group2: 3}, {Prefix: "1"}}
	wrongSigns := []api.Sym{{}, {Point: '.', Comma: '.'}, {Point: '.', Comma: ' '}, {Point: '0', Comma: ','}}
	for _, d := range append(wrongNumbers(), api.Dec{Coef: 1}) {
		for _, y := range append(wrongSigns, english) {
			for _, p := range ranges {
				checkErrors(t, p, y, d, api.ErrRange)
			}
			for _, p := range forms {
				checkErrors(t, p, y, d, api.ErrForm)
			}
		}
		for _, y := range wrongSigns {
			checkErrors(t, plain, y, d, api.ErrForm)
		}
	}
}

// wrongNumbers tells numbers that are none.
func wrongNumbers() []api.Dec {
	return []api.Dec{
		{Coef: api.MaxCoef + 1}, {Coef: -api.MaxCoef - 1}, {Scale: -1}, {Scale: 10}, {Coef: 10 * api.MaxCoef, Scale: 9},
		{Coef: math.MaxInt}, {Coef: math.MinInt}, {Scale: math.MaxInt}, {Scale: math.MinInt}, {Coef: math.MinInt, Scale: math.MinInt},
		{Coef: api.MaxCoef + 1, Scale: 9}, {Coef: -api.MaxCoef - 1, Scale: 6},
	}
}

// With NO1: numbers that are none have no text.
func TestWrongNumbersNO1(t *testing.T) {
	for _, d := range wrongNumbers() {
		for _, p := range []api.Pat{plain, {MinInt: 1}, {MinInt: 9, MinFrac: 6, MaxFrac: 6, Group: 3}} {
			if s, err := Format(p, english, d); s != "" || err != api.ErrRange {
				t.Errorf("Format(%v, %v) = %q %v, want %v", p, d, s, err, api.ErrRange)
			}
		}
	}
}
