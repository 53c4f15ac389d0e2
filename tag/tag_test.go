package tag

import (
	"reflect"
	"slices"
	"strings"
	"testing"

	"linguister/api"
)

// With TA1: what Check tells of ordinary tags, of each part at and beyond its bounds, and of variants.
func TestCheckTA1(t *testing.T) {
	cases := []struct {
		name string
		tag  api.Tag
		want error
	}{
		{"lang of 2", api.Tag{Lang: "de"}, nil},
		{"lang of 3", api.Tag{Lang: "azz"}, nil},
		{"all parts", api.Tag{Lang: "de", Script: "Latn", Region: "AT", Variants: []string{"valen"}}, nil},
		{"region of digits", api.Tag{Lang: "en", Region: "419"}, nil},
		{"bounds of letters", api.Tag{Lang: "az", Script: "Azaz", Region: "AZ"}, nil},
		{"bounds of digits", api.Tag{Lang: "az", Region: "090", Variants: []string{"09az0"}}, nil},
		{"variants only", api.Tag{Lang: "de", Variants: []string{"12345", "abcdefgh", "a1b2c3"}}, nil},
		{"empty list of variants", api.Tag{Lang: "de", Variants: []string{}}, nil},

		{"empty tag", api.Tag{}, api.ErrForm},
		{"no lang", api.Tag{Script: "Latn", Region: "AT"}, api.ErrForm},
		{"lang of 1", api.Tag{Lang: "d"}, api.ErrForm},
		{"lang of 4", api.Tag{Lang: "deut"}, api.ErrForm},
		{"lang with upper case", api.Tag{Lang: "dE"}, api.ErrForm},
		{"lang with digit", api.Tag{Lang: "d1"}, api.ErrForm},
		{"lang with byte below a", api.Tag{Lang: "d`"}, api.ErrForm},
		{"lang with byte above z", api.Tag{Lang: "d{"}, api.ErrForm},
		{"lang of two bytes, one letter", api.Tag{Lang: "\u00e9"}, api.ErrForm},

		{"script of 3", api.Tag{Lang: "de", Script: "Lat"}, api.ErrForm},
		{"script of 5", api.Tag{Lang: "de", Script: "Latin"}, api.ErrForm},
		{"script in lower case", api.Tag{Lang: "de", Script: "latn"}, api.ErrForm},
		{"script in upper case", api.Tag{Lang: "de", Script: "LATN"}, api.ErrForm},
		{"script with digit", api.Tag{Lang: "de", Script: "Lat1"}, api.ErrForm},
		{"script with byte below A", api.Tag{Lang: "de", Script: "@atn"}, api.ErrForm},
		{"script with byte above Z", api.Tag{Lang: "de", Script: "[atn"}, api.ErrForm},

		{"region of 1", api.Tag{Lang: "de", Region: "A"}, api.ErrForm},
		{"region of 3 letters", api.Tag{Lang: "de", Region: "AUT"}, api.ErrForm},
		{"region in lower case", api.Tag{Lang: "de", Region: "at"}, api.ErrForm},
		{"region of 2 digits", api.Tag{Lang: "de", Region: "41"}, api.ErrForm},
		{"region of 4 digits", api.Tag{Lang: "de", Region: "4190"}, api.ErrForm},
		{"region of both", api.Tag{Lang: "de", Region: "A1"}, api.ErrForm},
		{"region with byte below 0", api.Tag{Lang: "de", Region: "41/"}, api.ErrForm},
		{"region with byte above 9", api.Tag{Lang: "de", Region: "41:"}, api.ErrForm},

		{"variant of 4", api.Tag{Lang: "de", Variants: []string{"vale"}}, api.ErrForm},
		{"variant of 9", api.Tag{Lang: "de", Variants: []string{"abcdefghi"}}, api.ErrForm},
		{"empty variant", api.Tag{Lang: "de", Variants: []string{""}}, api.ErrForm},
		{"variant in upper case", api.Tag{Lang: "de", Variants: []string{"Valen"}}, api.ErrForm},
		{"variant with hyphen", api.Tag{Lang: "de", Variants: []string{"va-len"}}, api.ErrForm},
		{"equal variants", api.Tag{Lang: "de", Variants: []string{"valen", "valen"}}, api.ErrTwice},
		{"equal variants apart", api.Tag{Lang: "de", Variants: []string{"valen", "other", "valen"}}, api.ErrTwice},
		{"4 variants", api.Tag{Lang: "de", Variants: []string{"11111", "22222", "33333", "44444"}}, api.ErrFull},
	}
	for _, c := range cases {
		if got := Check(c.tag); got != c.want {
			t.Errorf("%s: Check(%q) = %v, want %v", c.name, c.tag, got, c.want)
		}
	}
}

// With TA1: the error that comes first in the order of the document is told.
func TestCheckOrderTA1(t *testing.T) {
	cases := []struct {
		name     string
		lang     string
		variants []string
		want     error
	}{
		{"lang before variants", "d", []string{"valen", "valen"}, api.ErrForm},
		{"lang before number", "d", []string{"11111", "22222", "33333", "44444"}, api.ErrForm},
		{"invalid before equal", "de", []string{"x", "valen", "valen"}, api.ErrForm},
		{"equal before invalid", "de", []string{"valen", "valen", "x"}, api.ErrTwice},
		{"invalid and equal", "de", []string{"x", "x"}, api.ErrForm},
		{"fourth is invalid", "de", []string{"11111", "22222", "33333", "x"}, api.ErrForm},
		{"fourth is equal", "de", []string{"11111", "22222", "33333", "11111"}, api.ErrTwice},
		{"fifth is equal", "de", []string{"11111", "22222", "33333", "44444", "44444"}, api.ErrTwice},
	}
	for _, c := range cases {
		if got := Check(api.Tag{Lang: c.lang, Variants: c.variants}); got != c.want {
			t.Errorf("%s: got %v, want %v", c.name, got, c.want)
		}
	}
	for _, bad := range []api.Tag{
		{Lang: "de", Script: "x", Variants: []string{"valen", "valen"}},
		{Lang: "de", Region: "x", Variants: []string{"valen", "valen"}},
	} {
		if got := Check(bad); got != api.ErrForm {
			t.Errorf("Check(%q) = %v, want ErrForm", bad, got)
		}
	}
}

// With TA2: all parts that are not empty, in order, also of tags that are invalid.
func TestTextTA2(t *testing.T) {
	cases := []struct {
		tag  api.Tag
		want string
	}{
		{api.Tag{Lang: "de"}, "de"},
		{api.Tag{Lang: "de", Region: "AT"}, "de-AT"},
		{api.Tag{Lang: "de", Script: "Latn"}, "de-Latn"},
		{api.Tag{Lang: "de", Script: "Latn", Region: "AT", Variants: []string{"zzzzz", "aaaaa"}}, "de-Latn-AT-zzzzz-aaaaa"},
		{api.Tag{Lang: "de", Variants: []string{"valen"}}, "de-valen"},
		{api.Tag{}, ""},
		{api.Tag{Script: "Latn", Variants: []string{"", "x", ""}}, "Latn-x"},
		{api.Tag{Lang: "D", Script: "-", Region: "\xff", Variants: []string{"X", "X", "X", "X"}}, "D---\xff-X-X-X-X"},
	}
	for _, c := range cases {
		if got := Text(c.tag); got != c.want {
			t.Errorf("Text(%q) = %q, want %q", c.tag, got, c.want)
		}
	}
}

// With TA2: what Parse tells of ordinary names, in any case of letters.
func TestParseTA2(t *testing.T) {
	cases := []struct {
		name string
		want api.Tag
	}{
		{"de", api.Tag{Lang: "de"}},
		{"DE", api.Tag{Lang: "de"}},
		{"AZZ", api.Tag{Lang: "azz"}},
		{"DE-latn-at-VALEN", api.Tag{Lang: "de", Script: "Latn", Region: "AT", Variants: []string{"valen"}}},
		{"de-LATN", api.Tag{Lang: "de", Script: "Latn"}},
		{"de-aZAz", api.Tag{Lang: "de", Script: "Azaz"}},
		{"de-De", api.Tag{Lang: "de", Region: "DE"}},
		{"az-az", api.Tag{Lang: "az", Region: "AZ"}},
		{"en-419", api.Tag{Lang: "en", Region: "419"}},
		{"en-12345", api.Tag{Lang: "en", Variants: []string{"12345"}}},
		{"en-AZaz09Zz", api.Tag{Lang: "en", Variants: []string{"azaz09zz"}}},
		{"sr-cyrl-zzzzz-aaaaa-1Ab2C", api.Tag{Lang: "sr", Script: "Cyrl", Variants: []string{"zzzzz", "aaaaa", "1ab2c"}}},
		{"abc-abcd-ab-aaaaaaaa-bbbbbbbb-cccccccc", api.Tag{Lang: "abc", Script: "Abcd", Region: "AB", Variants: []string{"aaaaaaaa", "bbbbbbbb", "cccccccc"}}},
	}
	for _, c := range cases {
		got, err := Parse(c.name)
		if err != nil || !reflect.DeepEqual(got, c.want) {
			t.Errorf("Parse(%q) = %q %v, want %q", c.name, got, err, c.want)
		}
	}
}

// With TA2: names of no tag are ErrForm whatever Check would tell, with the empty tag.
func TestParseInvalidTA2(t *testing.T) {
	names := []string{
		"", "-", "--", "e", "e-us", "engl", "e1", "12", "123",
		"-de", "de-", "de--AT", "de-AT-", "de-valen-", "de-Latn--AT",
		"de-A", "de-AUT", "de-41", "de-A1", "de-41a", "de-4190", "de-Lat1",
		"de-AT-Latn", "de-valen-AT", "de-valen-Latn", "Latn", "Latn-de", "AT-de-de",
		"de-Latn-Latn", "de-AT-CH", "de-AT-419",
		"de-abcdefghi", "de-vale1n2x3", "de-va_en", "de-val n",
		"de-valen-valen", "de-valen-VALEN", "de-valen-other-Valen",
		"de-aaaaa-bbbbb-ccccc-ddddd", "de-Latn-AT-aaaaa-bbbbb-ccccc-ddddd",
		"de-aaaaa-aaaaa-bbbbb-ccccc-ddddd", "de-aaaaa-bbbbb-ccccc-",
		"de_AT", "de AT", " de", "de ", "de\n", "de\x00", "de-@atn", "de-[atn",
		"\u00e9", "de-\u00e9", "de-\u212aa", "o\u212a", "de-\u017fabcde", "de-valen\u017f", "\xff\xff", "de-\xff\xff",
		strings.Repeat("a", 100000), strings.Repeat("-", 100000), "de" + strings.Repeat("-valen", 100000),
	}
	for _, s := range names {
		got, err := Parse(s)
		if err != api.ErrForm || !reflect.DeepEqual(got, api.Tag{}) {
			t.Errorf("Parse(%.50q) = %q %v, want the empty tag and ErrForm", s, got, err)
		}
	}
}

// With TA1 and TA2: for many tags, the valid ones and only they are recovered from their texts.
func TestRoundTripTA2(t *testing.T) {
	valid := 0
	for _, lang := range []string{"", "d", "de", "deu", "DE", "deut"} {
		for _, script := range []string{"", "Lat", "Latn", "latn", "LATN"} {
			for _, region := range []string{"", "AT", "at", "AUT", "419", "41"} {
				for _, variants := range variantLists() {
					given := api.Tag{Lang: lang, Script: script, Region: region, Variants: variants}
					if Check(given) == nil {
						valid++
					}
					roundTrip(t, given)
				}
			}
		}
	}
	if valid != 2*2*3*5 {
		t.Errorf("%d tags are valid, want %d", valid, 2*2*3*5)
	}
}

// variantLists tells lists of variants, the first five of them valid.
func variantLists() [][]string {
	return [][]string{
		nil,
		{"valen"},
		{"valen", "other"},
		{"other", "valen"},
		{"11111", "22222", "33333"},
		{"valen", "valen"},
		{"Valen"},
		{"vale"},
		{""},
		{"11111", "22222", "33333", "44444"},
	}
}

// roundTrip looks at the texts of one tag, as it is, in lower case and in upper case.
func roundTrip(t *testing.T, given api.Tag) {
	t.Helper()
	text := Text(given)
	for _, s := range []string{text, strings.ToLower(text), strings.ToUpper(text)} {
		got, err := Parse(s)
		if err != nil {
			if Check(given) == nil {
				t.Errorf("Parse(%q) = %v, and Check accepts %q", s, err, given)
			}
			continue
		}
		if Check(got) != nil || !strings.EqualFold(Text(got), s) {
			t.Errorf("Parse(%q) = %q, which is none of that text", s, got)
		}
		if Check(given) == nil && !reflect.DeepEqual(got, given) {
			t.Errorf("Parse(%q) = %q, want %q", s, got, given)
		}
	}
}

// With P2: arguments are left alone, also behind their length, and no result shares memory.
func TestMemoryTA(t *testing.T) {
	memory := []string{"valen", "", "kept"}
	given := api.Tag{Lang: "de", Variants: memory[:2]}
	Text(given)
	Check(given)
	if !slices.Equal(memory, []string{"valen", "", "kept"}) {
		t.Errorf("the argument is now %q", memory)
	}
	a, _ := Parse("de-valen")
	b, _ := Parse("de-valen")
	a.Variants[0] = "other"
	if b.Variants[0] != "valen" {
		t.Errorf("two results share memory")
	}
}
