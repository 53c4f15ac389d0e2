package plural

import (
	"math"
	"math/rand"
	"strconv"
	"strings"
	"testing"

	"linguister/api"
	"linguister/dec"
	"linguister/rule"
)

// number tells the number of a text.
func number(t *testing.T, text string) api.Dec {
	t.Helper()
	d, err := dec.Parse(text)
	if err != nil {
		t.Fatalf("dec.Parse(%q): %v", text, err)
	}
	return d
}

// setOf tells a set with these rules, in the order of the fields.
func setOf(texts [5]string) api.Set {
	return api.Set{Zero: texts[0], One: texts[1], Two: texts[2], Few: texts[3], Many: texts[4]}
}

// checkKind looks at what Kind tells of a number.
func checkKind(t *testing.T, s api.Set, d api.Dec, want string) {
	t.Helper()
	if got, err := Kind(s, d); got != want || err != nil {
		t.Errorf("Kind(%q, %+v) = %q %v, want %q", s, d, got, err, want)
	}
}

// checkInvalid looks at the error that Kind tells.
func checkInvalid(t *testing.T, s api.Set, d api.Dec, want error) {
	t.Helper()
	if got, err := Kind(s, d); got != "" || err != want {
		t.Errorf("Kind(%.200q, %+v) = %q %v, want %v", s, d, got, err, want)
	}
}

// With PL1: the categories of ordinary numbers by the rules of ordinary languages.
func TestKindPL1(t *testing.T) {
	english := api.Set{One: "i = 1 and v = 0"}
	french := api.Set{One: "i = 0,1"}
	russian := api.Set{
		One:  "v = 0 and i % 10 = 1 and i % 100 != 11",
		Few:  "v = 0 and i % 10 = 2..4 and i % 100 != 12..14",
		Many: "v = 0 and i % 10 = 0 or v = 0 and i % 10 = 5..9 or v = 0 and i % 100 = 11..14",
	}
	arabic := api.Set{Zero: "n = 0", One: "n = 1", Two: "n = 2", Few: "n % 100 = 3..10", Many: "n % 100 = 11..99"}
	cases := []struct {
		set     api.Set
		want    string
		numbers string
	}{
		{english, "one", "1 -1"},
		{english, "other", "0 2 11 21 101 1.0 1.5 0.1 -2 -1.0 1000000000000000"},
		{french, "one", "0 1 0.0 0.5 1.0 1.999999999 -1 -0.5 -1.5"},
		{french, "other", "2 2.0 10 -2 100 1000000000000000"},
		{russian, "one", "1 21 31 101 1001 999999999999991 -1"},
		{russian, "few", "2 3 4 22 24 104 1002 -3"},
		{russian, "many", "0 5 9 10 11 12 14 15 20 25 111 112 1000000000000000 -11"},
		{russian, "other", "0.0 1.0 2.0 5.0 1.5 -1.5"},
		{arabic, "zero", "0 0.0 0.000000000"},
		{arabic, "one", "1 1.0 -1 1.00"},
		{arabic, "two", "2 2.0 -2"},
		{arabic, "few", "3 10 103 110 3.0 -5 1003"},
		{arabic, "many", "11 12 99 111 199 11.00 -42"},
		{arabic, "other", "100 101 102 200 1000000000000000 0.5 1.5 2.5 3.5 11.5 -0.1"},
		{api.Set{}, "other", "0 1 2 3 5 11 100 0.0 1.5 -1 1000000000000000 -1000000.000000000"},
	}
	for _, c := range cases {
		for text := range strings.FieldsSeq(c.numbers) {
			checkKind(t, c.set, number(t, text), c.want)
		}
	}
}

// With PL1: of rules that are empty, hold or do not hold, the first that holds
// and is not empty gives the category; all of them, in all their combinations.
func TestFirstKindPL1(t *testing.T) {
	kinds := [5]string{"zero", "one", "two", "few", "many"}
	// Of 1.50, the second does not hold, and the others behind it do.
	texts := []string{"", "n = 1", "i = 1", "v = 2 and f = 50", "n = 1 or t = 5"}
	count := int(math.Pow(float64(len(texts)), float64(len(kinds))))
	for code := range count {
		var set [5]string
		want := "other"
		for i, rest := 4, code; i >= 0; i, rest = i-1, rest/len(texts) {
			choice := rest % len(texts)
			set[i] = texts[choice]
			if choice >= 2 {
				want = kinds[i]
			}
		}
		checkKind(t, setOf(set), api.Dec{Coef: 150, Scale: 2}, want)
	}
}

// With PL1: each operand is that of the number, and its sign is ignored.
func TestOperandsPL1(t *testing.T) {
	cases := []struct {
		rule, holding, failing string
	}{
		{"n = 5", "5 5.0 5.00 -5", "5.5 5.05 0.5 50 55"},
		{"i = 5", "5 5.0 5.5 5.999999999 -5.1", "0.5 50 4.9"},
		{"v = 1", "0.0 5.5 5.0 -0.1", "5 5.00 1"},
		{"w = 1", "5.5 5.50 0.1000 -5.5", "5 5.0 5.05 1"},
		{"f = 50", "5.50 0.050 -1.50", "50 5.5 5.500"},
		{"t = 5", "5.5 5.50 0.050 -0.5", "5 5.0 5.55"},
		{"n % 10 = 5", "5 15 25.0 999999999999995 -35", "50 5.5 15.5 6"},
		{"n != 5", "4 5.5 -6 5.000000001", "5 5.0 -5.00"},
	}
	for _, c := range cases {
		for text := range strings.FieldsSeq(c.holding) {
			checkKind(t, api.Set{Two: c.rule}, number(t, text), "two")
		}
		for text := range strings.FieldsSeq(c.failing) {
			checkKind(t, api.Set{Two: c.rule}, number(t, text), "other")
		}
	}
}

// wrongRules tells texts that are no rules.
func wrongRules() []string {
	return []string{
		"x", " ", "n", "n=1", "n = ", "n = 1 ", " n = 1", "n = 01", "n = -1", "n = 1000001", "n = 2..1", "n = 1..1",
		"n = 1,", "n % 0 = 1", "n % 1000001 = 1", "e = 1", "N = 1", "n = 1 and", "n = 1 or ", "n = 1 AND v = 0",
		"n = 1  or v = 0", "n = 1.5", "n == 1", "other", "\x00", "\xff", "n = 1\n", "ｎ = 1",
		"n = 1" + strings.Repeat(" or n = 1", api.MaxRels),
	}
}

// With PL1: Check tells the error of rule.Parse for any rule of the set, and
// Kind tells it too, wherever the rule is and whatever the number is.
func TestWrongRulesPL1(t *testing.T) {
	holds, fails := "n = 1", "n = 2"
	numbers := []api.Dec{{Coef: 1}, {Coef: 7, Scale: 1}, {Scale: -1}, {Scale: api.MaxScale + 1}, {Coef: api.MaxCoef + 1}}
	for _, wrong := range wrongRules() {
		_, want := rule.Parse(wrong)
		if want != api.ErrForm {
			t.Fatalf("rule.Parse(%q): %v, want ErrForm", wrong, want)
		}
		for _, others := range []string{"", holds, fails, wrong} {
			for i := range 5 {
				texts := [5]string{others, others, others, others, others}
				texts[i] = wrong
				s := setOf(texts)
				if err := Check(s); err != want {
					t.Errorf("Check(%q) = %v, want %v", s, err, want)
				}
				for _, d := range numbers {
					checkInvalid(t, s, d, want)
				}
			}
		}
	}
}

// With PL1: Check accepts each rule, in each field, and none at all.
func TestCheckPL1(t *testing.T) {
	rules := []string{
		"", "n = 1", "i = 0,1", "v != 0", "w % 10 = 1", "f % 100 != 11..19", "t = 0..1000000", "n % 1000000 = 5",
		"v = 0 and i % 10 = 2..4,7 or n != 1", "n = 1" + strings.Repeat(" or n = 1", api.MaxRels-1),
		"n = 1" + strings.Repeat(" and n = 1", api.MaxRels-1),
	}
	for _, text := range rules {
		for i := range 5 {
			var texts [5]string
			texts[i] = text
			if err := Check(setOf(texts)); err != nil {
				t.Errorf("Check(%q) = %v, want nil", setOf(texts), err)
			}
		}
		if s := setOf([5]string{text, text, text, text, text}); Check(s) != nil {
			t.Errorf("Check(%q) = %v, want nil", s, Check(s))
		}
	}
}

// With PL1: with a valid set, an empty one too, the error is that of dec.Check.
func TestWrongNumbersPL1(t *testing.T) {
	sets := []api.Set{{}, {One: "n = 1"}, {Zero: "n != 1", One: "n != 1", Two: "n != 1", Few: "n != 1", Many: "n != 1"}}
	for _, coef := range []int{math.MinInt, -api.MaxCoef - 1, -api.MaxCoef, -1, 0, 1, api.MaxCoef, api.MaxCoef + 1, math.MaxInt} {
		for _, scale := range []int{math.MinInt, -1, 0, 1, api.MaxScale, api.MaxScale + 1, math.MaxInt} {
			d := api.Dec{Coef: coef, Scale: scale}
			want := dec.Check(d)
			for _, s := range sets {
				if want != nil {
					checkInvalid(t, s, d, want)
				} else if got, err := Kind(s, d); got == "" || err != nil {
					t.Errorf("Kind(%q, %+v) = %q %v, want a category", s, d, got, err)
				}
			}
		}
	}
	checkInvalid(t, api.Set{}, api.Dec{Scale: -1}, api.ErrRange)
}

// predicate is a rule and what it means for the text of a number.
type predicate struct {
	rule  string
	holds func(text string) bool
}

// digits tells those before and those behind the point.
func digits(text string) (string, string) {
	whole, part, _ := strings.Cut(strings.TrimPrefix(text, "-"), ".")
	return whole, part
}

func predicates() []predicate {
	return []predicate{
		{"i % 10 = 1", func(s string) bool {
			whole, _ := digits(s)
			return strings.HasSuffix(whole, "1")
		}},
		{"n % 100 = 11..19", func(s string) bool {
			whole, part := digits(s)
			last := "0" + whole
			return last[len(last)-2] == '1' && last[len(last)-1] != '0' && strings.Trim(part, "0") == ""
		}},
		{"v = 0", func(s string) bool { return !strings.Contains(s, ".") }},
		{"v != 2 and f % 10 = 1", func(s string) bool {
			_, part := digits(s)
			return len(part) != 2 && strings.HasSuffix(part, "1")
		}},
		{"w = 2,4 or i = 0", func(s string) bool {
			whole, part := digits(s)
			count := len(strings.TrimRight(part, "0"))
			return count == 2 || count == 4 || whole == "0"
		}},
		{"t != 5", func(s string) bool {
			_, part := digits(s)
			return strings.Trim(part, "0") != "5"
		}},
		{"n % 2 = 0", func(s string) bool {
			whole, part := digits(s)
			return strings.ContainsAny(whole[len(whole)-1:], "02468") && strings.Trim(part, "0") == ""
		}},
	}
}

// With PL1: each number has the one category that the texts of the numbers tell.
func TestRandomKindsPL1(t *testing.T) {
	random := rand.New(rand.NewSource(7))
	kinds := [5]string{"zero", "one", "two", "few", "many"}
	known, told := predicates(), map[string]int{}
	for range 30000 {
		d := api.Dec{Coef: random.Intn(1 << random.Intn(50)), Scale: random.Intn(api.MaxScale + 1)}
		if random.Intn(2) == 0 {
			d.Coef = -d.Coef
		}
		text := dec.Text(d)
		var texts [5]string
		want := "other"
		for i := 4; i >= 0; i-- {
			choice := random.Intn(len(known) + 6)
			if choice >= len(known) {
				continue
			}
			texts[i] = known[choice].rule
			if known[choice].holds(text) {
				want = kinds[i]
			}
		}
		checkKind(t, setOf(texts), d, want)
		told[want]++
	}
	for _, kind := range append(kinds[:], "other") {
		if told[kind] == 0 {
			t.Errorf("no number was %s", kind)
		}
	}
}

// With PL1: any set and any number give a category, or nothing and an error.
func TestAnyValuesPL1(t *testing.T) {
	random := rand.New(rand.NewSource(8))
	pieces := []string{"n", "i", "v", " ", " = ", " != ", " % ", "1", "10", "..", ",", " and ", " or ", "x", "n = 1", "v != 0", "\xff"}
	for range 20000 {
		var texts [5]string
		for i := range texts {
			for range random.Intn(4) {
				texts[i] += pieces[random.Intn(len(pieces))]
			}
		}
		s, d := setOf(texts), api.Dec{Coef: int(random.Uint64()) >> random.Intn(64), Scale: random.Intn(13) - 2}
		want := wrongOf(texts, d)
		got, err := Kind(s, d)
		if err != want {
			t.Errorf("Kind(%q, %+v) = %q %v, want %v", s, d, got, err, want)
		}
		if isKind := strings.Contains(" zero one two few many other ", " "+got+" "); isKind != (err == nil) || got == "" != (err != nil) {
			t.Errorf("Kind(%q, %+v) = %q %v", s, d, got, err)
		}
	}
}

// wrongOf tells the error that the parts of Kind have.
func wrongOf(texts [5]string, d api.Dec) error {
	for _, text := range texts {
		if _, err := rule.Parse(text); text != "" && err != nil {
			return err
		}
	}
	return dec.Check(d)
}

// With PL1: long texts are read too.
func TestLongRulesPL1(t *testing.T) {
	var ranges []string
	for i := range 100000 {
		ranges = append(ranges, strconv.Itoa(2*i))
	}
	s := api.Set{Few: "i = " + strings.Join(ranges, ",")}
	checkKind(t, s, api.Dec{Coef: 199998}, "few")
	checkKind(t, s, api.Dec{Coef: 199999}, "other")
	checkInvalid(t, api.Set{Few: s.Few, Many: s.Few + ","}, api.Dec{}, api.ErrForm)
}
