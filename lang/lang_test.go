package lang

import (
	"math/rand"
	"strings"
	"testing"

	"linguister/api"
	"linguister/dec"
	"linguister/plural"
)

// table tells the rules that LA1 names, copied from its table.
func table() map[string]api.Set {
	return map[string]api.Set{
		"en": {One: "i = 1 and v = 0"},
		"de": {One: "i = 1 and v = 0"},
		"fr": {One: "i = 0,1"},
		"ja": {},
		"pl": {
			One:  "i = 1 and v = 0",
			Few:  "v = 0 and i % 10 = 2..4 and i % 100 != 12..14",
			Many: "v = 0 and i != 1 and i % 10 = 0..1 or v = 0 and i % 10 = 5..9 or v = 0 and i % 100 = 12..14",
		},
		"ru": {
			One:  "v = 0 and i % 10 = 1 and i % 100 != 11",
			Few:  "v = 0 and i % 10 = 2..4 and i % 100 != 12..14",
			Many: "v = 0 and i % 10 = 0 or v = 0 and i % 10 = 5..9 or v = 0 and i % 100 = 11..14",
		},
		"ar": {Zero: "n = 0", One: "n = 1", Two: "n = 2", Few: "n % 100 = 3..10", Many: "n % 100 = 11..99"},
		"lv": {
			Zero: "n % 10 = 0 or n % 100 = 11..19 or v = 2 and f % 100 = 11..19",
			One:  "n % 10 = 1 and n % 100 != 11 or v = 2 and f % 10 = 1 and f % 100 != 11 or v != 2 and f % 10 = 1",
		},
	}
}

// checkNone looks at what Rules tells of a language that it does not have.
func checkNone(t *testing.T, lang string) {
	t.Helper()
	if s, err := Rules(lang); s != (api.Set{}) || err != api.ErrNone {
		t.Errorf("Rules(%.50q) = %q %v, want no rules and ErrNone", lang, s, err)
	}
}

// checkKind looks at the category of a number in a language.
func checkKind(t *testing.T, lang string, d api.Dec, want string) {
	t.Helper()
	s, err := Rules(lang)
	if err != nil {
		t.Fatalf("Rules(%q): %v", lang, err)
	}
	if got, err := plural.Kind(s, d); got != want || err != nil {
		t.Errorf("%s is %q %v in %s, want %q", dec.Text(d), got, err, lang, want)
	}
}

// With LA1: the rules are those of the table, and all are valid.
func TestRulesLA1(t *testing.T) {
	for lang, want := range table() {
		got, err := Rules(lang)
		if got != want || err != nil {
			t.Errorf("Rules(%q) = %q %v, want %q", lang, got, err, want)
		}
		if err := plural.Check(got); err != nil {
			t.Errorf("plural.Check of %s: %v", lang, err)
		}
	}
}

// With LA1: what is not in the table as it stands has no rules: no other
// language, and none in capitals, in a longer tag, or with a space.
func TestNoRulesLA1(t *testing.T) {
	for _, lang := range []string{
		"", " ", "-", "xx", "es", "it", "zh", "und", "root", "language", "en, de", "en,de", "english", "eng", "deu", "fra",
		"none", "\x00", "\xff", "ｅｎ", "en\x00", "e\u0301n", strings.Repeat("en", 100000),
	} {
		checkNone(t, lang)
	}
	for lang := range table() {
		for _, other := range []string{
			strings.ToUpper(lang), strings.ToUpper(lang[:1]) + lang[1:], lang[:1], lang[1:], lang + lang,
			" " + lang, lang + " ", lang + "\n", lang + "-", lang + "_", lang + "-AT", lang + "_AT", lang + "-Latn", "`" + lang + "`",
		} {
			checkNone(t, other)
		}
	}
}

// With LA1: of all names of two or three small letters, only those in the table
// have rules.
func TestAllNamesLA1(t *testing.T) {
	const letters = "abcdefghijklmnopqrstuvwxyz"
	known, found := table(), 0
	check := func(lang string) {
		if _, listed := known[lang]; !listed {
			checkNone(t, lang)
		} else if _, err := Rules(lang); err == nil {
			found++
		}
	}
	for _, a := range letters {
		for _, b := range letters {
			check(string(a) + string(b))
			for _, c := range letters {
				check(string(a) + string(b) + string(c))
			}
		}
	}
	if found != len(known) {
		t.Errorf("%d languages have rules, want %d", found, len(known))
	}
}

// With LA1: the categories of ordinary numbers and of those at the bounds of
// each rule, written out.
func TestKindsLA1(t *testing.T) {
	cases := []struct {
		lang, want, numbers string
	}{
		{"en", "one", "1 -1"},
		{"en", "other", "0 2 3 10 11 21 101 1.0 1.00 0.1 1.5 -2"},
		{"de", "one", "1 -1"},
		{"de", "other", "0 2 3 10 11 21 101 1.0 1.00 0.1 1.5 -2"},
		{"fr", "one", "0 1 0.0 0.5 1.0 1.5 1.999999999 -1 -0.1"},
		{"fr", "other", "2 2.0 10 11 21 101 1000000 -2"},
		{"ja", "other", "0 1 2 5 11 100 0.0 1.0 1.5 -1 1000000000000000"},
		{"pl", "one", "1 -1"},
		{"pl", "few", "2 3 4 22 24 32 102 104 122 1002 -2"},
		{"pl", "many", "0 5 9 10 11 12 13 14 15 19 20 21 25 31 100 101 111 112 114 121 1000 1001 1012 -11"},
		{"pl", "other", "0.0 0.5 1.0 1.5 2.0 5.0 12.0 100.0"},
		{"ru", "one", "1 21 31 91 101 121 1001 -21"},
		{"ru", "few", "2 3 4 22 24 102 122 1002 -3"},
		{"ru", "many", "0 5 9 10 11 12 13 14 15 19 20 25 100 111 112 114 1000 1011 -11"},
		{"ru", "other", "0.0 0.1 1.0 1.5 2.0 5.0 11.0 100.0"},
		{"ar", "zero", "0 0.0 0.00"},
		{"ar", "one", "1 1.0 -1"},
		{"ar", "two", "2 2.00 -2"},
		{"ar", "few", "3 4 10 103 110 203 1003 3.0 -10"},
		{"ar", "many", "11 12 26 99 111 199 1011 11.0 -99"},
		{"ar", "other", "100 101 102 200 201 1000 100.0 0.1 1.1 2.5 3.5 11.5"},
		{"lv", "zero", "0 10 11 12 19 20 30 100 110 111 119 1000 0.0 10.0 11.00 0.11 1.11 1.19 2.12 -20"},
		{"lv", "one", "1 21 31 101 121 1001 1.0 21.00 0.1 1.1 10.1 0.01 0.21 11.01 0.001 0.011 0.111 1.0001 -1"},
		{"lv", "other", "2 9 22 29 102 109 2.0 0.2 0.9 1.2 10.2 0.10 1.10 0.20 0.22 0.012 0.110 1.012"},
	}
	for _, c := range cases {
		for text := range strings.FieldsSeq(c.numbers) {
			d, err := dec.Parse(text)
			if err != nil {
				t.Fatalf("dec.Parse(%q): %v", text, err)
			}
			checkKind(t, c.lang, d, c.want)
		}
	}
}

// digits are those of a number's text.
type digits struct {
	whole, part string
	point       bool
}

func digitsOf(d api.Dec) digits {
	whole, part, point := strings.Cut(strings.TrimPrefix(dec.Text(d), "-"), ".")
	return digits{whole, part, point}
}

// isWhole tells if only zeros, or nothing, are behind the point.
func (d digits) isWhole() bool { return strings.Trim(d.part, "0") == "" }

// last tells the last two of these digits.
func last(text string) string {
	text = "00" + text
	return text[len(text)-2:]
}

func isTeen(text string) bool { return last(text) >= "11" && last(text) <= "19" }

// endsIn tells if the last digit is one of these, and it is no teen.
func endsIn(text, these string) bool {
	return text != "" && !isTeen(text) && strings.Contains(these, text[len(text)-1:])
}

// expected tells the category of a number in a language by its digits alone.
func expected(lang string, d digits) string {
	switch lang {
	case "en", "de":
		return english(d)
	case "fr":
		if d.whole == "0" || d.whole == "1" {
			return "one"
		}
	case "pl", "ru":
		return slavic(d, lang == "ru")
	case "ar":
		return arabic(d)
	case "lv":
		return latvian(d)
	}
	return "other"
}

func english(d digits) string {
	if d.whole == "1" && !d.point {
		return "one"
	}
	return "other"
}

func slavic(d digits, russian bool) string {
	switch {
	case d.point:
		return "other"
	case d.whole == "1" || russian && endsIn(d.whole, "1"):
		return "one"
	case endsIn(d.whole, "234"):
		return "few"
	}
	return "many"
}

func arabic(d digits) string {
	end := last(d.whole)
	switch {
	case !d.isWhole():
		return "other"
	case d.whole == "0":
		return "zero"
	case d.whole == "1":
		return "one"
	case d.whole == "2":
		return "two"
	case end >= "11":
		return "many"
	case end >= "03":
		return "few"
	}
	return "other"
}

func latvian(d digits) string {
	switch {
	case d.isWhole() && (isTeen(d.whole) || endsIn(d.whole, "0")):
		return "zero"
	case len(d.part) == 2 && isTeen(d.part):
		return "zero"
	case d.isWhole() && endsIn(d.whole, "1"):
		return "one"
	case len(d.part) == 2 && endsIn(d.part, "1"):
		return "one"
	case len(d.part) != 2 && strings.HasSuffix(d.part, "1"):
		return "one"
	}
	return "other"
}

// With LA1: each small number has the category that its digits tell, in each
// language; every category that a language has is that of some number.
func TestSmallNumbersLA1(t *testing.T) {
	told := map[string]bool{}
	for lang := range table() {
		for coef := range 1300 {
			for scale := range 4 {
				d := api.Dec{Coef: coef, Scale: scale}
				want := expected(lang, digitsOf(d))
				checkKind(t, lang, d, want)
				told[lang+" "+want] = true
			}
		}
	}
	for lang, s := range table() {
		for kind, text := range map[string]string{"zero": s.Zero, "one": s.One, "two": s.Two, "few": s.Few, "many": s.Many, "other": "any"} {
			if told[lang+" "+kind] != (text != "") {
				t.Errorf("%s in %s: %v", kind, lang, told[lang+" "+kind])
			}
		}
	}
}

// With LA1: so has each number of any size, scale and sign.
func TestRandomNumbersLA1(t *testing.T) {
	random := rand.New(rand.NewSource(9))
	for lang := range table() {
		for range 4000 {
			d := api.Dec{Coef: random.Intn(1 << random.Intn(50)), Scale: random.Intn(api.MaxScale + 1)}
			if d.Coef > api.MaxCoef {
				d.Coef = api.MaxCoef
			}
			if random.Intn(2) == 0 {
				d.Coef = -d.Coef
			}
			checkKind(t, lang, d, expected(lang, digitsOf(d)))
		}
	}
}
