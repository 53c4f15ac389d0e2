package short

import (
	"math"
	"math/rand"
	"strconv"
	"testing"

	"linguister/api"
)

// checkText looks at the text of a number.
func checkText(t *testing.T, n int, text string) {
	t.Helper()
	if s, err := Text(n); s != text || err != nil {
		t.Errorf("Text(%d) = %q %v, want %q", n, s, err, text)
	}
}

// With SH1: ordinary numbers, and those about the bounds.
func TestTextsSH1(t *testing.T) {
	cases := []struct {
		n    int
		text string
	}{
		// Numbers less than 1000 are as they are.
		{0, "0"},
		{1, "1"},
		{9, "9"},
		{10, "10"},
		{99, "99"},
		{100, "100"},
		{500, "500"},
		{999, "999"},

		// Each letter, with the first and the last number that has it.
		{1000, "1K"},
		{999999, "999K"},
		{1000000, "1M"},
		{999999999, "999M"},
		{1000000000, "1B"},
		{999999999999, "999B"},
		{1000000000000, "1T"},
		{999999999999999, "999T"},

		// There is no fifth letter.
		{api.MaxCoef, "1000T"},

		// The next digit is shown unless it is 0, and is not rounded.
		{1001, "1K"},
		{1099, "1K"},
		{1100, "1.1K"},
		{1199, "1.1K"},
		{1250, "1.2K"},
		{1999, "1.9K"},
		{2000, "2K"},
		{2050, "2K"},
		{9099, "9K"},
		{9949, "9.9K"},
		{9999, "9.9K"},
		{1050000, "1M"},
		{1099999, "1M"},
		{1250000, "1.2M"},
		{5000999, "5M"},
		{9999999, "9.9M"},
		{1000999999, "1B"},
		{3700000000, "3.7B"},
		{9999999999, "9.9B"},
		{4200000000000, "4.2T"},
		{7099999999999, "7T"},
		{9999999999999, "9.9T"},

		// It is not shown behind a number of 10 or more.
		{10000, "10K"},
		{10999, "10K"},
		{12345, "12K"},
		{99999, "99K"},
		{100999, "100K"},
		{10999999, "10M"},
		{99950000, "99M"},
		{123456789, "123M"},
		{10900000000, "10B"},
		{10900000000000, "10T"},
		{123900000000000, "123T"},
	}
	for _, c := range cases {
		checkText(t, c.n, c.text)
	}
}

// expected tells the text of a number by its digits: three fewer for each letter.
func expected(n int) string {
	digits := strconv.Itoa(n)
	times := min((len(digits)-1)/3, 4)
	letter := []string{"", "K", "M", "B", "T"}[times]
	whole, rest := digits[:len(digits)-3*times], digits[len(digits)-3*times:]
	if times > 0 && len(whole) == 1 && rest[0] != '0' {
		return whole + "." + rest[:1] + letter
	}
	return whole + letter
}

// With SH1: all numbers up to some millions.
func TestSmallNumbersSH1(t *testing.T) {
	for n := range 11000000 {
		if s, err := Text(n); s != expected(n) || err != nil {
			t.Fatalf("Text(%d) = %q %v, want %q", n, s, err, expected(n))
		}
	}
}

// numbers tells numbers of all sizes, about the multiples of powers of ten and between them.
func numbers() []int {
	list := []int{0}
	r := rand.New(rand.NewSource(12))
	for power := 1; power <= api.MaxCoef; power *= 10 {
		for factor := 1; factor <= 110; factor++ {
			for _, n := range []int{factor*power - 1, factor * power, factor*power + 1} {
				if n <= api.MaxCoef {
					list = append(list, n)
				}
			}
			list = append(list, r.Intn(power)+1)
		}
	}
	return list
}

// With SH1: numbers of all sizes.
func TestAllSizesSH1(t *testing.T) {
	for _, n := range numbers() {
		checkText(t, n, expected(n))
	}
}

// wrongNumbers tells numbers that are too small or too great.
func wrongNumbers() []int {
	return []int{-1, -2, -999, -1000, -1250, -api.MaxCoef, math.MinInt, math.MinInt + 1,
		api.MaxCoef + 1, api.MaxCoef + 1000, 10 * api.MaxCoef, math.MaxInt - 1, math.MaxInt}
}

// With SH1: numbers that have no text.
func TestWrongNumbersSH1(t *testing.T) {
	for _, n := range wrongNumbers() {
		if s, err := Text(n); s != "" || err != api.ErrRange {
			t.Errorf("Text(%d) = %q %v, want %v", n, s, err, api.ErrRange)
		}
	}
}

// With SH1: how many times a unit goes, and what is left.
func TestPartsSH1(t *testing.T) {
	cases := []struct{ n, unit, times, left int }{
		{0, 1, 0, 0},
		{0, 1000000, 0, 0},
		{1, 1, 1, 0},
		{1, 2, 0, 1},
		{7, 7, 1, 0},
		{7, 3, 2, 1},
		{59, 60, 0, 59},
		{60, 60, 1, 0},
		{61, 60, 1, 1},
		{1250, 1000, 1, 250},
		{999999, 1000000, 0, 999999},
		{1000000, 1000000, 1, 0},
		{1000001, 1000000, 1, 1},
		{1000001, 999999, 1, 2},
		{api.MaxCoef, 1, api.MaxCoef, 0},
		{api.MaxCoef, 7, 142857142857142, 6},
		{api.MaxCoef, 1000000, 1000000000, 0},
		{api.MaxCoef - 1, 1000000, 999999999, 999999},
		{api.MaxCoef, 999999, 1000001000, 1000},
	}
	for _, c := range cases {
		if times, left, err := Parts(c.n, c.unit); times != c.times || left != c.left || err != nil {
			t.Errorf("Parts(%d, %d) = %d %d %v, want %d %d", c.n, c.unit, times, left, err, c.times, c.left)
		}
	}
}

// With SH1: all parts together are the number, and less than a unit is left.
func TestPartsOfAllSizesSH1(t *testing.T) {
	r := rand.New(rand.NewSource(13))
	check := func(n, unit int) {
		times, left, err := Parts(n, unit)
		if times < 0 || left < 0 || left >= unit || times*unit+left != n || err != nil {
			t.Errorf("Parts(%d, %d) = %d %d %v", n, unit, times, left, err)
		}
	}
	for _, n := range numbers() {
		for _, unit := range []int{1, 2, 3, 7, 10, 60, 999, 1000, 3600, 86400, 999999, 1000000} {
			check(n, unit)
		}
		check(n, r.Intn(1000000)+1)
	}
	for n := range 300 {
		for unit := 1; unit <= 300; unit++ {
			check(n, unit)
		}
	}
}

// checkNoParts looks at what Parts tells of a wrong number or unit.
func checkNoParts(t *testing.T, n, unit int) {
	t.Helper()
	if times, left, err := Parts(n, unit); times != 0 || left != 0 || err != api.ErrRange {
		t.Errorf("Parts(%d, %d) = %d %d %v, want %v", n, unit, times, left, err, api.ErrRange)
	}
}

// With SH1: there are no parts of a wrong number, nor of a wrong unit.
func TestNoPartsSH1(t *testing.T) {
	wrongUnits := []int{0, -1, -2, -1000000, math.MinInt, 1000001, 2000000, api.MaxCoef, math.MaxInt}
	for _, unit := range wrongUnits {
		for _, n := range []int{0, 1, 1000000, 1000001, api.MaxCoef} {
			checkNoParts(t, n, unit)
		}
	}
	for _, n := range wrongNumbers() {
		for _, unit := range append(wrongUnits, 1, 7, 1000000) {
			checkNoParts(t, n, unit)
		}
	}
}
