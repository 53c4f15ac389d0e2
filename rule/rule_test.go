package rule

import (
	"math"
	"math/rand"
	"reflect"
	"regexp"
	"strconv"
	"strings"
	"testing"

	"linguister/api"
	"linguister/dec"
	"linguister/ops"
)

// one tells the ranges of one number.
func one(n int) [][2]int {
	return [][2]int{{n, n}}
}

// ruleOf tells a rule of one relation.
func ruleOf(rel api.Rel) [][]api.Rel {
	return [][]api.Rel{{rel}}
}

// times tells a valid relation so many times.
func times(count int) []api.Rel {
	rels := make([]api.Rel, count)
	for i := range rels {
		rels[i] = api.Rel{Op: 'n', Ranges: one(i)}
	}
	return rels
}

// textCases tells rules and their texts.
func textCases() []struct {
	text string
	rule [][]api.Rel
} {
	return []struct {
		text string
		rule [][]api.Rel
	}{
		{"n = 1", ruleOf(api.Rel{Op: 'n', Ranges: one(1)})},
		{"i = 0", ruleOf(api.Rel{Op: 'i', Ranges: one(0)})},
		{"v = 2", ruleOf(api.Rel{Op: 'v', Ranges: one(2)})},
		{"w = 3", ruleOf(api.Rel{Op: 'w', Ranges: one(3)})},
		{"f = 40", ruleOf(api.Rel{Op: 'f', Ranges: one(40)})},
		{"t = 5", ruleOf(api.Rel{Op: 't', Ranges: one(5)})},

		{"n != 1", ruleOf(api.Rel{Op: 'n', Not: true, Ranges: one(1)})},
		{"n % 10 = 1", ruleOf(api.Rel{Op: 'n', Mod: 10, Ranges: one(1)})},
		{"n % 10 != 1", ruleOf(api.Rel{Op: 'n', Mod: 10, Not: true, Ranges: one(1)})},
		{"n % 1 = 0", ruleOf(api.Rel{Op: 'n', Mod: 1, Ranges: one(0)})},

		{"n = 2..4", ruleOf(api.Rel{Op: 'n', Ranges: [][2]int{{2, 4}}})},
		{"n = 0..1", ruleOf(api.Rel{Op: 'n', Ranges: [][2]int{{0, 1}}})},
		{"n = 2..4,7", ruleOf(api.Rel{Op: 'n', Ranges: [][2]int{{2, 4}, {7, 7}}})},
		{"n = 7,2..4", ruleOf(api.Rel{Op: 'n', Ranges: [][2]int{{7, 7}, {2, 4}}})},
		{"n = 0,1", ruleOf(api.Rel{Op: 'n', Ranges: [][2]int{{0, 0}, {1, 1}}})},
		{"n != 1..2,2..3,2,2", ruleOf(api.Rel{Op: 'n', Not: true, Ranges: [][2]int{{1, 2}, {2, 3}, {2, 2}, {2, 2}}})},

		{"n = 1000000", ruleOf(api.Rel{Op: 'n', Ranges: one(api.MaxRule)})},
		{"n = 0..1000000", ruleOf(api.Rel{Op: 'n', Ranges: [][2]int{{0, api.MaxRule}}})},
		{"n = 999999..1000000", ruleOf(api.Rel{Op: 'n', Ranges: [][2]int{{999999, api.MaxRule}}})},
		{"n % 1000000 = 1", ruleOf(api.Rel{Op: 'n', Mod: api.MaxRule, Ranges: one(1)})},
		{"n % 5 = 9", ruleOf(api.Rel{Op: 'n', Mod: 5, Ranges: one(9)})},

		{"n = 1 and v = 0", [][]api.Rel{{{Op: 'n', Ranges: one(1)}, {Op: 'v', Ranges: one(0)}}}},
		{"n = 1 or v = 0", [][]api.Rel{{{Op: 'n', Ranges: one(1)}}, {{Op: 'v', Ranges: one(0)}}}},
		{"n = 1 or n = 1", [][]api.Rel{{{Op: 'n', Ranges: one(1)}}, {{Op: 'n', Ranges: one(1)}}}},
		{"v = 0 and i % 10 = 2..4,7 or n != 1 or f % 100 != 11..19 and w = 1 and t = 0", [][]api.Rel{
			{{Op: 'v', Ranges: one(0)}, {Op: 'i', Mod: 10, Ranges: [][2]int{{2, 4}, {7, 7}}}},
			{{Op: 'n', Not: true, Ranges: one(1)}},
			{{Op: 'f', Mod: 100, Not: true, Ranges: [][2]int{{11, 19}}}, {Op: 'w', Ranges: one(1)}, {Op: 't', Ranges: one(0)}},
		}},
	}
}

// With RU1: Text tells each rule, and Parse tells it back, each part in its field.
func TestTextAndParseRU1(t *testing.T) {
	for _, c := range textCases() {
		if got, err := Text(c.rule); got != c.text || err != nil {
			t.Errorf("Text(%v) = %q %v, want %q", c.rule, got, err, c.text)
		}
		if got, err := Parse(c.text); !reflect.DeepEqual(got, c.rule) || err != nil {
			t.Errorf("Parse(%q) = %v %v, want %v", c.text, got, err, c.rule)
		}
	}
}

// With RU1: MaxRels relations in total, in any parts, are not too many, and one more is.
func TestMaxRelsRU1(t *testing.T) {
	var single [][]api.Rel
	for range api.MaxRels {
		single = append(single, times(1))
	}
	fitting := [][][]api.Rel{
		{times(20)},
		{times(19), times(1)},
		{times(1), times(19)},
		{times(5), times(6), times(9)},
		single,
	}
	for _, r := range fitting {
		text, err := Text(r)
		if err != nil {
			t.Errorf("Text(%v): %v, want nil", r, err)
		}
		if got, err := Parse(text); !reflect.DeepEqual(got, r) || err != nil {
			t.Errorf("Parse(%q) = %v %v, want %v", text, got, err, r)
		}
		if _, err := Holds(r, api.Ops{}); err != nil {
			t.Errorf("Holds(%v): %v, want nil", r, err)
		}
		checkInvalid(t, append(r, times(1)), api.ErrFull)
		last := len(r) - 1
		checkInvalid(t, append(r[:last:last], append(r[last], times(1)...)), api.ErrFull)
		if got, err := Parse(text + " and n = 1"); got != nil || err != api.ErrForm {
			t.Errorf("Parse with one more relation = %v %v, want ErrForm", got, err)
		}
		if got, err := Parse("n = 1 or " + text); got != nil || err != api.ErrForm {
			t.Errorf("Parse with one more part = %v %v, want ErrForm", got, err)
		}
	}
	checkInvalid(t, [][]api.Rel{times(100000)}, api.ErrFull)
}

// checkInvalid looks at what Text and Holds tell of a rule that is none.
func checkInvalid(t *testing.T, r [][]api.Rel, want error) {
	t.Helper()
	if got, err := Text(r); got != "" || err != want {
		t.Errorf("Text(%.200v) = %q %v, want %v", r, got, err, want)
	}
	for _, o := range []api.Ops{{}, {I: 1}, {I: 1, V: 1, W: 1, F: 5, T: 5}} {
		if got, err := Holds(r, o); got || err != want {
			t.Errorf("Holds(%.200v, %v) = %v %v, want false %v", r, o, got, err, want)
		}
	}
}

// invalidRels tells relations that no rule has.
func invalidRels() []api.Rel {
	rels := []api.Rel{
		{},
		{Ranges: one(1)},
		{Op: 'n'},
		{Op: 'n', Ranges: [][2]int{}},
		{Op: 'n', Mod: -1, Ranges: one(1)},
		{Op: 'n', Mod: -10, Ranges: one(1)},
		{Op: 'n', Mod: api.MaxRule + 1, Ranges: one(1)},
		{Op: 'n', Mod: math.MinInt, Ranges: one(1)},
		{Op: 'n', Mod: math.MaxInt, Ranges: one(1)},
		{Op: 'x', Mod: -1, Not: true},
	}
	for op := range 256 {
		if !strings.ContainsRune("nivwft", rune(op)) {
			rels = append(rels, api.Rel{Op: byte(op), Ranges: one(1)})
		}
	}
	for _, ends := range [][2]int{
		{-1, 1}, {-1, -1}, {1, -1}, {0, -1}, {-2, -1}, {2, 1}, {1, 0}, {api.MaxRule, api.MaxRule - 1},
		{0, api.MaxRule + 1}, {api.MaxRule + 1, api.MaxRule + 1}, {api.MaxRule, api.MaxRule + 1}, {api.MaxRule + 1, 0},
		{math.MinInt, math.MaxInt}, {math.MinInt, 0}, {0, math.MaxInt}, {math.MaxInt, math.MinInt},
	} {
		for _, ranges := range [][][2]int{{ends}, {{1, 2}, ends}, {ends, {1, 2}}, {{0, 0}, ends, {1, 1}}} {
			rels = append(rels, api.Rel{Op: 'n', Ranges: ranges}, api.Rel{Op: 'i', Mod: 10, Not: true, Ranges: ranges})
		}
	}
	return rels
}

// With RU1 and RU2: ErrForm for each invalid relation, wherever it is, also behind MaxRels relations and
// where the operands decide without it.
func TestErrFormRU1(t *testing.T) {
	for _, rel := range invalidRels() {
		checkInvalid(t, ruleOf(rel), api.ErrForm)
		checkInvalid(t, [][]api.Rel{append(times(2), rel)}, api.ErrForm)
		checkInvalid(t, [][]api.Rel{{rel, {Op: 'n', Ranges: one(1)}}}, api.ErrForm)
		checkInvalid(t, [][]api.Rel{times(2), {rel}}, api.ErrForm)
		checkInvalid(t, [][]api.Rel{{rel}, times(2)}, api.ErrForm)
		checkInvalid(t, [][]api.Rel{append(times(20), rel)}, api.ErrForm)
		checkInvalid(t, [][]api.Rel{times(21), {rel}}, api.ErrForm)
		checkInvalid(t, [][]api.Rel{{rel}, times(21)}, api.ErrForm)
	}
}

// With RU1 and RU2: ErrForm for no parts and for each part without relations, also behind MaxRels relations.
func TestEmptyRU1(t *testing.T) {
	for _, empty := range [][]api.Rel{nil, {}} {
		checkInvalid(t, [][]api.Rel{empty}, api.ErrForm)
		checkInvalid(t, [][]api.Rel{empty, times(2)}, api.ErrForm)
		checkInvalid(t, [][]api.Rel{times(2), empty}, api.ErrForm)
		checkInvalid(t, [][]api.Rel{times(2), empty, times(2)}, api.ErrForm)
		checkInvalid(t, [][]api.Rel{times(20), empty}, api.ErrForm)
		checkInvalid(t, [][]api.Rel{times(21), empty}, api.ErrForm)
	}
	checkInvalid(t, nil, api.ErrForm)
	checkInvalid(t, [][]api.Rel{}, api.ErrForm)
}

// With RU1: texts of no rule are ErrForm, with no rule.
func TestParseInvalidRU1(t *testing.T) {
	texts := []string{
		"", " ", "n", "1", "=", " = ", "n = ", " = 1", "n =", "= 1", "n=1", "n= 1", "n =1", "n  = 1", "n =  1",
		"n = 1 ", " n = 1", "n = 1\n", "\tn = 1", "n\t=\t1", "n = 1\x00", "n == 1", "n < 1", "n is 1", "n in 1",
		"x = 1", "N = 1", "nn = 1", "ni = 1", "\u00f1 = 1", "\xff = 1", "n = n", "n = i",
		"n ! = 1", "n !=1", "n!= 1", "n !=  1", "n != ", " != 1", "not n = 1", "n = 1 != 2", "n != 1 = 2", "n = 1 = 2",
		"n % = 1", "n %  = 1", "n % 0 = 1", "n % 00 = 1", "n % -1 = 1", "n % -10 = 1", "n % +10 = 1", "n % 010 = 1",
		"n % 1000001 = 1", "n % 1e3 = 1", "n % 1_0 = 1", "n % 10 % 10 = 1", "n %10 = 1", "n% 10 = 1", "n%10 = 1",
		"% 10 = 1", " % 10 = 1", "n % 10", "n % n = 1", "n % 10.0 = 1", "n mod 10 = 1",
		"n % 99999999999999999999 = 1", "n % 18446744073709551626 = 1",
		"n = -1", "n = +1", "n = 01", "n = 00", "n = -0", "n = 1000001", "n = 0x1", "n = 1_0", "n = 1.0", "n = 1.5",
		"n = 99999999999999999999", "n = 18446744073709551617", "n = \u0661", "n = one",
		"n = 2..2", "n = 0..0", "n = 4..2", "n = 1..0", "n = 2.4", "n = 2...4", "n = 2..", "n = ..4", "n = ..",
		"n = 2..4..6", "n = 2.. 4", "n = 2 ..4", "n = 02..4", "n = 2..04", "n = -1..4", "n = 2..1000001", "n = 1000001..1000002",
		"n = ,", "n = 1,", "n = ,1", "n = 1,,2", "n = 1, 2", "n = 1 ,2", "n = 1;2", "n = 1 2", "n = 1,2..2", "n = 1,3..2", "n = 1,02",
		"and", "or", " and ", " or ", "n = 1 and", "n = 1 and ", " and n = 1", "and n = 1", "n = 1 or", "n = 1 or ", " or n = 1", "or n = 1",
		"n = 1 and  and n = 1", "n = 1 or  or n = 1", "n = 1 and or n = 1", "n = 1 or and n = 1", "n = 1 and or n = 2",
		"n = 1  and n = 1", "n = 1 and  n = 1", "n = 1  or n = 1", "n = 1 or  n = 1", "n = 1 AND n = 1", "n = 1 Or n = 1",
		"n = 1andn = 1", "n = 1,n = 1", "n = 1 n = 1", "n = 1 or x = 1", "n = 1 and n = 3..2", "(n = 1)", "n = 1 xor n = 1",
		strings.Repeat("n", 100000), strings.Repeat(" or ", 100000), strings.Repeat(" and ", 100000),
		"n = " + strings.Repeat("1", 100000), "n = 1" + strings.Repeat(" and n = 1", 100000),
		"n = 1" + strings.Repeat(" or n = 1", 100000), "n = 1" + strings.Repeat(",1", 100000) + ",",
		"n = 1" + strings.Repeat("..1", 100000), "n" + strings.Repeat(" % 10", 100000) + " = 1",
	}
	for _, s := range texts {
		if got, err := Parse(s); got != nil || err != api.ErrForm {
			t.Errorf("Parse(%.50q) = %.200v %v, want nothing and ErrForm", s, got, err)
		}
	}
}

// randomRule tells a valid rule; its numbers are small or about the bound.
func randomRule(random *rand.Rand) [][]api.Rel {
	number := func() int {
		if random.Intn(5) == 0 {
			return api.MaxRule - random.Intn(3)
		}
		return random.Intn(25)
	}
	r := make([][]api.Rel, 1+random.Intn(3))
	for i := range r {
		r[i] = make([]api.Rel, 1+random.Intn(3))
		for j := range r[i] {
			rel := api.Rel{Op: "nivwft"[random.Intn(6)], Not: random.Intn(2) == 0}
			if random.Intn(2) == 0 {
				rel.Mod = number()
			}
			for range 1 + random.Intn(3) {
				low, high := number(), number()
				rel.Ranges = append(rel.Ranges, [2]int{min(low, high), max(low, high)})
			}
			r[i][j] = rel
		}
	}
	return r
}

// With RU1: for many rules, the text has a rule, and it is the one.
func TestRoundTripRU1(t *testing.T) {
	random := rand.New(rand.NewSource(1))
	for range 20000 {
		r := randomRule(random)
		text, err := Text(r)
		if err != nil || !isRule(text) {
			t.Errorf("Text(%v) = %q %v", r, text, err)
		}
		if got, err := Parse(text); !reflect.DeepEqual(got, r) || err != nil {
			t.Errorf("Parse(%q) = %v %v, want %v", text, got, err, r)
		}
	}
}

const (
	numberForm = `(?:0|[1-9][0-9]*)`
	rangeForm  = numberForm + `(?:\.\.` + numberForm + `)?`
	relForm    = `[nivwft](?: % ` + numberForm + `)? !?= ` + rangeForm + `(?:,` + rangeForm + `)*`
)

var (
	ruleShape  = regexp.MustCompile(`^` + relForm + `(?: (?:and|or) ` + relForm + `)*$`)
	relShape   = regexp.MustCompile(relForm)
	rangeShape = regexp.MustCompile(rangeForm)
	modShape   = regexp.MustCompile(` % (` + numberForm + `)`)
)

// isRule tells by another way if a text is that of a rule.
func isRule(s string) bool {
	if !ruleShape.MatchString(s) || len(relShape.FindAllString(s, -1)) > api.MaxRels {
		return false
	}
	small := func(digits string) (int, bool) {
		n, err := strconv.Atoi(digits)
		return n, err == nil && n <= api.MaxRule
	}
	for _, mod := range modShape.FindAllStringSubmatch(s, -1) {
		if n, fits := small(mod[1]); !fits || n == 0 {
			return false
		}
	}
	for _, ends := range rangeShape.FindAllString(s, -1) {
		first, last, found := strings.Cut(ends, "..")
		low, fits := small(first)
		if !fits {
			return false
		}
		if high, fits := small(last); found && (!fits || high <= low) {
			return false
		}
	}
	return true
}

// With RU1: texts that are near to those of rules are taken if and only if a rule has them.
func TestNearTextsRU1(t *testing.T) {
	const signs = "nivwft%=!,. 0129ador+-\x00\xff"
	random, taken := rand.New(rand.NewSource(2)), 0
	for range 100000 {
		s, err := Text(randomRule(random))
		if err != nil {
			t.Fatalf("Text: %v", err)
		}
		for range 1 + random.Intn(2) {
			place := random.Intn(len(s))
			next := random.Intn(len(signs))
			insert := signs[next : next+random.Intn(2)]
			s = s[:place] + insert + s[place+random.Intn(2):]
			if s == "" {
				break
			}
		}
		got, err := Parse(s)
		if !isRule(s) {
			if got != nil || err != api.ErrForm {
				t.Errorf("Parse(%q) = %v %v, want nothing and ErrForm", s, got, err)
			}
			continue
		}
		taken++
		if text, textErr := Text(got); text != s || textErr != nil || err != nil {
			t.Errorf("Parse(%q) = %v %v, whose text is %q %v", s, got, err, text, textErr)
		}
	}
	if taken < 1000 {
		t.Errorf("only %d texts are those of rules", taken)
	}
}

// checkHolds looks at a rule that is given as its text, for operands.
func checkHolds(t *testing.T, text string, o api.Ops, want bool) {
	t.Helper()
	r, err := Parse(text)
	if err != nil {
		t.Fatalf("Parse(%q): %v", text, err)
	}
	if got, err := Holds(r, o); got != want || err != nil {
		t.Errorf("Holds(%s, %+v) = %v %v, want %v", text, o, got, err, want)
	}
}

// With RU2: each operand is its own field.
func TestOperandsRU2(t *testing.T) {
	o := api.Ops{I: 11, V: 12, W: 13, F: 14, T: 15}
	for i, op := range "ivwft" {
		for value := 10; value <= 16; value++ {
			text := string(op) + " = " + strconv.Itoa(value)
			checkHolds(t, text, o, value == 11+i)
		}
	}
	o.T = 0
	for value := 10; value <= 16; value++ {
		checkHolds(t, "n = "+strconv.Itoa(value), o, value == 11)
	}
}

// With RU2: n is I, but equals no number if T is not 0, with and without Mod and Not.
func TestOperandNRU2(t *testing.T) {
	whole := []api.Ops{{I: 1}, {I: 1, V: 2}, {I: 1, V: 2, W: 2, F: 50}}
	broken := []api.Ops{{I: 1, V: 1, W: 1, F: 5, T: 5}, {I: 1, T: 1}, {I: 1, T: -1}, {I: 1, V: 9, W: 9, F: 1, T: 1}}
	cases := []struct {
		text              string
		ofWhole, ofBroken bool
	}{
		{"n = 1", true, false},
		{"n = 2", false, false},
		{"n != 1", false, true},
		{"n != 2", true, true},
		{"n = 0..1000000", true, false},
		{"n != 0..1000000", false, true},
		{"n % 10 = 1", true, false},
		{"n % 10 != 1", false, true},
		{"n % 1 = 0", true, false},
		{"n % 1 != 0", false, true},
		{"i = 1", true, true},
		{"i != 1", false, false},
		{"i % 10 = 1", true, true},
	}
	for _, c := range cases {
		for _, o := range whole {
			checkHolds(t, c.text, o, c.ofWhole)
		}
		for _, o := range broken {
			checkHolds(t, c.text, o, c.ofBroken)
		}
	}
}

// With RU2: numbers and ranges include both ends; Not turns it about, for all ranges together.
func TestRangesRU2(t *testing.T) {
	cases := []struct {
		ranges string
		among  func(i int) bool
	}{
		{"3", func(i int) bool { return i == 3 }},
		{"0", func(i int) bool { return i == 0 }},
		{"2..4", func(i int) bool { return i >= 2 && i <= 4 }},
		{"0..1", func(i int) bool { return i <= 1 }},
		{"2,4", func(i int) bool { return i == 2 || i == 4 }},
		{"2..4,7", func(i int) bool { return i >= 2 && i <= 4 || i == 7 }},
		{"7,2..4", func(i int) bool { return i >= 2 && i <= 4 || i == 7 }},
		{"9,3..5,1..4", func(i int) bool { return i == 9 || i >= 1 && i <= 5 }},
		{"8..1000000", func(i int) bool { return i >= 8 && i <= api.MaxRule }},
		{"1000000", func(i int) bool { return i == api.MaxRule }},
	}
	for _, c := range cases {
		for _, i := range []int{0, 1, 2, 3, 4, 5, 6, 7, 8, 9, 10, api.MaxRule - 1, api.MaxRule, api.MaxRule + 1, api.MaxCoef, math.MaxInt} {
			checkHolds(t, "i = "+c.ranges, api.Ops{I: i}, c.among(i))
			checkHolds(t, "i != "+c.ranges, api.Ops{I: i}, !c.among(i))
		}
		for _, i := range []int{-1, -3, math.MinInt} {
			checkHolds(t, "i = "+c.ranges, api.Ops{I: i}, false)
			checkHolds(t, "i != "+c.ranges, api.Ops{I: i}, true)
		}
	}
}

// With RU2: the operand is taken modulo Mod, unless that is 0.
func TestModRU2(t *testing.T) {
	for _, mod := range []int{1, 2, 3, 10, 100, 999999, api.MaxRule} {
		for _, f := range []int{0, 1, 9, 10, 11, 99, 100, 101, 111, 999999, api.MaxRule, api.MaxRule + 1, api.MaxCoef, math.MaxInt} {
			rest := strconv.Itoa(f % mod)
			left := "f % " + strconv.Itoa(mod)
			checkHolds(t, left+" = "+rest, api.Ops{F: f}, true)
			checkHolds(t, left+" != "+rest, api.Ops{F: f}, false)
			checkHolds(t, left+" = "+strconv.Itoa(f%mod+1), api.Ops{F: f}, false)
			checkHolds(t, left+" = "+strconv.Itoa(mod), api.Ops{F: f}, false)
		}
	}
	checkHolds(t, "i = 11", api.Ops{I: 1}, false)
	checkHolds(t, "i = 1", api.Ops{I: 11}, false)
	checkHolds(t, "i % 10 = 1", api.Ops{I: 11}, true)
	checkHolds(t, "i % 10 = 11", api.Ops{I: 11}, false)
}

// With RU2: all relations of a part, and one part of the rule.
func TestPartsRU2(t *testing.T) {
	o := api.Ops{I: 1}
	for bits := range 64 {
		b := [6]bool{}
		rels := [6]string{}
		for i := range b {
			b[i] = bits>>i&1 == 1
			rels[i] = "i = " + strconv.Itoa(bits>>i&1)
		}
		checkHolds(t, strings.Join(rels[:], " and "), o, bits == 63)
		checkHolds(t, strings.Join(rels[:], " or "), o, bits != 0)
		checkHolds(t, rels[0]+" and "+rels[1]+" or "+rels[2]+" and "+rels[3]+" or "+rels[4]+" and "+rels[5], o,
			b[0] && b[1] || b[2] && b[3] || b[4] && b[5])
		checkHolds(t, rels[0]+" or "+rels[1]+" and "+rels[2]+" and "+rels[3]+" or "+rels[4]+" or "+rels[5], o,
			b[0] || b[1] && b[2] && b[3] || b[4] || b[5])
	}
}

// With RU2: rules of languages, for the operands of numbers.
func TestLanguagesRU2(t *testing.T) {
	const (
		english = "i = 1 and v = 0"
		french  = "i = 0,1"
		polish  = "v = 0 and i % 10 = 2..4 and i % 100 != 12..14"
		russian = "v = 0 and i % 10 = 0 or v = 0 and i % 10 = 5..9 or v = 0 and i % 100 = 11..14"
		arabic  = "n % 100 = 3..10"
		latvian = "n % 10 = 1 and n % 100 != 11 or v = 2 and f % 10 = 1 and f % 100 != 11 or v != 2 and f % 10 = 1"
	)
	cases := []struct{ rule, holds, fails string }{
		{english, "1 -1", "0 2 10 11 21 1.0 1.5 0.1 100"},
		{french, "0 1 0.0 0.5 1.0 1.99 -1.5", "2 10 11 2.0 1000000"},
		{polish, "2 3 4 22 33 104 122 1002", "0 1 5 12 13 14 112 1014 2.0 3.5 20 25"},
		{russian, "0 5 9 10 11 12 14 19 20 100 111 1000000", "1 2 4 21 101 122 5.0 0.5"},
		{arabic, "3 10 103 1010 3.0 -5.00", "0 1 2 11 99 100 102 3.5 10.1"},
		{latvian, "1 21 101 1.0 21.00 0.1 10.21 11.31 0.001 10.1 2.11111", "0 2 11 111 10 0.11 2.11 11.0 1.20 1.5"},
	}
	for _, c := range cases {
		for _, number := range strings.Fields(c.holds) {
			checkHolds(t, c.rule, operandsOf(t, number), true)
		}
		for _, number := range strings.Fields(c.fails) {
			checkHolds(t, c.rule, operandsOf(t, number), false)
		}
	}
}

// operandsOf tells the operands of a number that is given as its text.
func operandsOf(t *testing.T, text string) api.Ops {
	t.Helper()
	d, err := dec.Parse(text)
	if err != nil {
		t.Fatalf("Parse(%q): %v", text, err)
	}
	o, err := ops.Of(d)
	if err != nil {
		t.Fatalf("Of(%s): %v", text, err)
	}
	return o
}

// With P1: no operands make Holds panic.
func TestAnyOperandsRU2(t *testing.T) {
	for _, n := range []int{math.MinInt, math.MinInt + 1, -1, 0, 1, math.MaxInt} {
		o := api.Ops{I: n, V: n, W: n, F: n}
		for _, op := range "nivwf" {
			checkHolds(t, string(op)+" = 1", o, n == 1)
			checkHolds(t, string(op)+" % 1 = 0", o, true)
			checkHolds(t, string(op)+" % 1000000 != 1000000", o, true)
		}
	}
}

// With P5: long lists of ranges are no reason to wait.
func TestLongListsRU1(t *testing.T) {
	const many = 300000
	rel := api.Rel{Op: 'i', Ranges: make([][2]int, many)}
	for i := range many {
		rel.Ranges[i] = [2]int{i, i + i%2}
	}
	r := ruleOf(rel)
	text, err := Text(r)
	if err != nil {
		t.Fatalf("Text: %v", err)
	}
	if got, err := Parse(text); !reflect.DeepEqual(got, r) || err != nil {
		t.Errorf("Parse tells another rule, or %v", err)
	}
	if got, err := Holds(r, api.Ops{I: many}); !got || err != nil {
		t.Errorf("Holds = %v %v, want true", got, err)
	}
	if got, err := Holds(r, api.Ops{I: many + 1}); got || err != nil {
		t.Errorf("Holds = %v %v, want false", got, err)
	}
}

// With P2: arguments are left alone, also behind their length, and no lists share memory.
func TestMemoryRU1(t *testing.T) {
	build := func() [][]api.Rel {
		return [][]api.Rel{
			{{Op: 'n', Ranges: [][2]int{{1, 2}, {4, 3}}}, {Op: 'x'}},
			{{Op: 'i', Mod: 10, Not: true, Ranges: [][2]int{{5, 5}, {7, 9}}}},
			{{Op: 'x', Mod: -1}},
		}
	}
	memory := build()
	// What is invalid lies behind the lengths.
	given := memory[:2]
	given[0] = given[0][:1]
	given[0][0].Ranges = given[0][0].Ranges[:1]
	if got, err := Text(given); got != "n = 1..2 or i % 10 != 5,7..9" || err != nil {
		t.Errorf("Text = %q %v", got, err)
	}
	if got, err := Holds(given, api.Ops{I: 2}); !got || err != nil {
		t.Errorf("Holds = %v %v, want true", got, err)
	}
	memory[0] = memory[0][:2]
	memory[0][0].Ranges = memory[0][0].Ranges[:2]
	if !reflect.DeepEqual(memory, build()) {
		t.Errorf("the argument is now %v", memory)
	}

	text := "n = 1,2 and i = 3,4 or v = 5,6"
	first, _ := Parse(text)
	second, _ := Parse(text)
	for _, part := range first {
		for j := range part {
			part[j].Ranges = append(part[j].Ranges, [2]int{9, 9})
			part[j].Ranges[0] = [2]int{8, 8}
		}
	}
	first[0] = append(first[0], api.Rel{Op: 't', Ranges: one(7)})
	if got, err := Text(first); got != "n = 8,2,9 and i = 8,4,9 and t = 7 or v = 8,6,9" || err != nil {
		t.Errorf("lists of a result share memory: %q %v", got, err)
	}
	if got, err := Text(second); got != text || err != nil {
		t.Errorf("two results share memory: %q %v", got, err)
	}
}
