package ops

import (
	"math"
	"strconv"
	"strings"
	"testing"

	"linguister/api"
	"linguister/dec"
)

// With OP1: each operand, for texts of numbers.
func TestOfOP1(t *testing.T) {
	cases := []struct {
		text string
		want api.Ops
	}{
		{"0", api.Ops{}},
		{"1", api.Ops{I: 1}},
		{"10", api.Ops{I: 10}},
		{"1200", api.Ops{I: 1200}},
		{"1000000000000000", api.Ops{I: api.MaxCoef}},
		{"999999999999999", api.Ops{I: 999999999999999}},

		{"1.5", api.Ops{I: 1, V: 1, W: 1, F: 5, T: 5}},
		{"1.50", api.Ops{I: 1, V: 2, W: 1, F: 50, T: 5}},
		{"1.500", api.Ops{I: 1, V: 3, W: 1, F: 500, T: 5}},
		{"1.05", api.Ops{I: 1, V: 2, W: 2, F: 5, T: 5}},
		{"1.050", api.Ops{I: 1, V: 3, W: 2, F: 50, T: 5}},
		{"1.505", api.Ops{I: 1, V: 3, W: 3, F: 505, T: 505}},
		{"20.3040", api.Ops{I: 20, V: 4, W: 3, F: 3040, T: 304}},
		{"0.5", api.Ops{V: 1, W: 1, F: 5, T: 5}},
		{"0.000000001", api.Ops{V: 9, W: 9, F: 1, T: 1}},
		{"0.100000000", api.Ops{V: 9, W: 1, F: 100000000, T: 1}},
		{"0.999999999", api.Ops{V: 9, W: 9, F: 999999999, T: 999999999}},
		{"1000000.000000000", api.Ops{I: 1000000, V: 9}},
		{"999999.999999999", api.Ops{I: 999999, V: 9, W: 9, F: 999999999, T: 999999999}},

		// Only zeros are behind the point.
		{"0.0", api.Ops{V: 1}},
		{"0.000000000", api.Ops{V: 9}},
		{"1.0", api.Ops{I: 1, V: 1}},
		{"10.00", api.Ops{I: 10, V: 2}},
		{"100000000000000.0", api.Ops{I: 100000000000000, V: 1}},

		// The sign is ignored.
		{"-1", api.Ops{I: 1}},
		{"-0.5", api.Ops{V: 1, W: 1, F: 5, T: 5}},
		{"-1.50", api.Ops{I: 1, V: 2, W: 1, F: 50, T: 5}},
		{"-3.00", api.Ops{I: 3, V: 2}},
		{"-1000000000000000", api.Ops{I: api.MaxCoef}},
		{"-1000000.000000000", api.Ops{I: 1000000, V: 9}},
	}
	for _, c := range cases {
		d, err := dec.Parse(c.text)
		if err != nil {
			t.Fatalf("Parse(%q): %v", c.text, err)
		}
		if got, err := Of(d); got != c.want || err != nil {
			t.Errorf("Of(%s) = %+v, %v, want %+v", c.text, got, err, c.want)
		}
	}
}

// number tells the number that digits form; that of none is 0.
func number(t *testing.T, digits string) int {
	t.Helper()
	n, err := strconv.Atoi("0" + digits)
	if err != nil {
		t.Fatalf("%q has no number: %v", digits, err)
	}
	return n
}

// spelled tells what the operands have to be, by the text of the number.
func spelled(t *testing.T, d api.Dec) api.Ops {
	t.Helper()
	whole, part, _ := strings.Cut(strings.TrimPrefix(dec.Text(d), "-"), ".")
	short := strings.TrimRight(part, "0")
	return api.Ops{
		I: number(t, whole),
		V: len(part),
		W: len(short),
		F: number(t, part),
		T: number(t, short),
	}
}

// With OP1: numbers about the powers of ten and about the bounds, both signs, every scale, by their texts.
func TestOfTextOP1(t *testing.T) {
	coefs := []int{15, 120, 1050, 1010101010, 123456789, 120304050607080, 123456789012345, 100100100100100, api.MaxCoef}
	for power := 1; power < api.MaxCoef; power *= 10 {
		coefs = append(coefs, power-1, power, power+1, 5*power)
	}
	for coef := range 2000 {
		coefs = append(coefs, coef, api.MaxCoef-coef)
	}
	for _, coef := range coefs {
		for scale := range api.MaxScale + 1 {
			for _, signed := range []int{coef, -coef} {
				d := api.Dec{Coef: signed, Scale: scale}
				got, err := Of(d)
				if want := spelled(t, d); got != want || err != nil {
					t.Errorf("Of(%s) = %+v, %v, want %+v", dec.Text(d), got, err, want)
				}
			}
		}
	}
}

// With OP1: the errors of dec.Check, and no operands with them.
func TestOfErrorsOP1(t *testing.T) {
	cases := []api.Dec{
		{Coef: 1, Scale: -1},
		{Coef: 1, Scale: api.MaxScale + 1},
		{Coef: 150, Scale: 64},
		{Scale: -1},
		{Scale: api.MaxScale + 1},
		{Scale: math.MinInt},
		{Scale: math.MaxInt},
		{Coef: api.MaxCoef + 1},
		{Coef: -api.MaxCoef - 1},
		{Coef: api.MaxCoef + 1, Scale: api.MaxScale},
		{Coef: -api.MaxCoef - 1, Scale: 1},
		{Coef: math.MinInt},
		{Coef: math.MaxInt},
		{Coef: math.MinInt, Scale: api.MaxScale},
		{Coef: math.MaxInt, Scale: math.MinInt},
		{Coef: math.MinInt, Scale: math.MaxInt},
	}
	for _, d := range cases {
		if got, err := Of(d); got != (api.Ops{}) || err != api.ErrRange || err != dec.Check(d) {
			t.Errorf("Of(%+v) = %+v, %v, want no operands and ErrRange", d, got, err)
		}
	}
}
