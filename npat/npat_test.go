package npat

import (
	"math"
	"math/rand"
	"strings"
	"testing"

	"linguister/api"
)

// checkCheck looks at what Check tells, and that Text tells the same error.
func checkCheck(t *testing.T, p api.Pat, wrong error) {
	t.Helper()
	if err := Check(p); err != wrong {
		t.Errorf("Check(%.80v) = %v, want %v", p, err, wrong)
	}
	if s, err := Text(p); err != wrong || (wrong != nil && s != "") {
		t.Errorf("Text(%.80v) = %q %v, want %v", p, s, err, wrong)
	}
}

// checkBoth looks at what Text tells of a pattern, and Parse of its text.
func checkBoth(t *testing.T, p api.Pat, text string) {
	t.Helper()
	if err := Check(p); err != nil {
		t.Errorf("Check(%v) = %v, want nil", p, err)
	}
	if s, err := Text(p); s != text || err != nil {
		t.Errorf("Text(%v) = %q %v, want %q", p, s, err, text)
	}
	if got, err := Parse(text); got != p || err != nil {
		t.Errorf("Parse(%q) = %v %v, want %v", text, got, err, p)
	}
}

// checkRefused looks at what Parse tells of a text of no pattern.
func checkRefused(t *testing.T, s string) {
	t.Helper()
	if p, err := Parse(s); p != (api.Pat{}) || err != api.ErrForm {
		t.Errorf("Parse(%.60q) = %v %v, want %v", s, p, err, api.ErrForm)
	}
}

// With NP2: patterns and their texts, both ways.
func TestTextsNP2(t *testing.T) {
	cases := []struct {
		text string
		p    api.Pat
	}{
		{"0", api.Pat{MinInt: 1}},
		{"00", api.Pat{MinInt: 2}},
		{"000000000", api.Pat{MinInt: 9}},

		// Behind the point are as few zeros as must be, and then the others.
		{"0.#", api.Pat{MinInt: 1, MaxFrac: 1}},
		{"0.0", api.Pat{MinInt: 1, MinFrac: 1, MaxFrac: 1}},
		{"0.0#", api.Pat{MinInt: 1, MinFrac: 1, MaxFrac: 2}},
		{"0.00", api.Pat{MinInt: 1, MinFrac: 2, MaxFrac: 2}},
		{"00.0##", api.Pat{MinInt: 2, MinFrac: 1, MaxFrac: 3}},
		{"0.######", api.Pat{MinInt: 1, MaxFrac: 6}},
		{"0.000000", api.Pat{MinInt: 1, MinFrac: 6, MaxFrac: 6}},

		// With groups there are more placeholders than in all groups together.
		{"#,0", api.Pat{MinInt: 1, Group: 1}},
		{"#,#0", api.Pat{MinInt: 1, Group: 2}},
		{"#,##0", api.Pat{MinInt: 1, Group: 3}},
		{"#,###0", api.Pat{MinInt: 1, Group: 4}},
		{"#,#,0", api.Pat{MinInt: 1, Group: 1, Group2: 1}},
		{"#,##,##0", api.Pat{MinInt: 1, Group: 3, Group2: 2}},
		{"#,###,##0", api.Pat{MinInt: 1, Group: 3, Group2: 3}},
		{"#,#,###0", api.Pat{MinInt: 1, Group: 4, Group2: 1}},
		{"#,####,0", api.Pat{MinInt: 1, Group: 1, Group2: 4}},
		{"#,####,###0", api.Pat{MinInt: 1, Group: 4, Group2: 4}},

		// MinInt about the number of placeholders that the groups ask for.
		{"#,#00", api.Pat{MinInt: 2, Group: 3}},
		{"#,000", api.Pat{MinInt: 3, Group: 3}},
		{"0,000", api.Pat{MinInt: 4, Group: 3}},
		{"00,000", api.Pat{MinInt: 5, Group: 3}},
		{"000000,000", api.Pat{MinInt: 9, Group: 3}},
		{"00000000,0", api.Pat{MinInt: 9, Group: 1}},
		{"#,#0,000", api.Pat{MinInt: 4, Group: 3, Group2: 2}},
		{"#,00,000", api.Pat{MinInt: 5, Group: 3, Group2: 2}},
		{"0,00,000", api.Pat{MinInt: 6, Group: 3, Group2: 2}},
		{"00,00,000", api.Pat{MinInt: 7, Group: 3, Group2: 2}},
		{"0000000,0,0", api.Pat{MinInt: 9, Group: 1, Group2: 1}},
		{"0,0000,0000", api.Pat{MinInt: 9, Group: 4, Group2: 4}},

		{"$0", api.Pat{Prefix: "$", MinInt: 1}},
		{"0%", api.Pat{Suffix: "%", MinInt: 1}},
		{"$#,##0.0#", api.Pat{Prefix: "$", MinInt: 1, MinFrac: 1, MaxFrac: 2, Group: 3}},
		{"#,##,##0 %", api.Pat{Suffix: " %", MinInt: 1, Group: 3, Group2: 2}},
		{"EUR #,##0.00 net", api.Pat{Prefix: "EUR ", Suffix: " net", MinInt: 1, MinFrac: 2, MaxFrac: 2, Group: 3}},
		{"     0.#     ", api.Pat{Prefix: "     ", Suffix: "     ", MinInt: 1, MaxFrac: 1}},
		{"az AZ#,#,0$%$%$", api.Pat{Prefix: "az AZ", Suffix: "$%$%$", MinInt: 1, Group: 1, Group2: 1}},
	}
	for _, c := range cases {
		checkBoth(t, c.p, c.text)
	}
}

// patterns tells all valid patterns without a prefix and a suffix.
func patterns() []api.Pat {
	var list []api.Pat
	for minInt := 1; minInt <= 9; minInt++ {
		for maxFrac := 0; maxFrac <= 6; maxFrac++ {
			for minFrac := 0; minFrac <= maxFrac; minFrac++ {
				p := api.Pat{MinInt: minInt, MinFrac: minFrac, MaxFrac: maxFrac}
				list = append(list, p)
				for p.Group = 1; p.Group <= 4; p.Group++ {
					for p.Group2 = 0; p.Group2 <= 4; p.Group2++ {
						list = append(list, p)
					}
				}
			}
		}
	}
	return list
}

// layOut tells what Text has to make, by putting one placeholder after the
// other in front of what is there already.
func layOut(p api.Pat) string {
	text := ""
	for i := p.MaxFrac; i > 0; i-- {
		if i > p.MinFrac {
			text = "#" + text
		} else {
			text = "0" + text
		}
	}
	if text != "" {
		text = "." + text
	}
	text += p.Suffix
	for laid := 0; ; laid++ {
		if laid >= p.MinInt && (p.Group == 0 || laid > p.Group+p.Group2) {
			return p.Prefix + text
		}
		if laid > 0 && (laid == p.Group || p.Group2 > 0 && laid == p.Group+p.Group2) {
			text = "," + text
		}
		if laid < p.MinInt {
			text = "0" + text
		} else {
			text = "#" + text
		}
	}
}

// With NP1 and NP2: all patterns without a prefix and a suffix, both ways.
func TestPatternsNP2(t *testing.T) {
	for _, p := range patterns() {
		checkBoth(t, p, layOut(p))
	}
}

// affixes tells prefixes, which are suffixes as well, of each length.
func affixes() []string {
	return []string{"", "a", "z", "A", "Z", " ", "$", "%", "US$", "  ", "$$$$$", " kg ", "Euros", "a b c", "%%%%%"}
}

// With NP1 and NP2: patterns with a prefix and a suffix, both ways.
func TestAffixesNP2(t *testing.T) {
	random := rand.New(rand.NewSource(10))
	all := patterns()
	for _, prefix := range affixes() {
		for _, suffix := range affixes() {
			for range 20 {
				p := all[random.Intn(len(all))]
				p.Prefix, p.Suffix = prefix, suffix
				checkBoth(t, p, layOut(p))
			}
		}
	}
}

// With NP1: the bytes of a prefix and of a suffix, each one alone and among others.
func TestAffixBytesNP1(t *testing.T) {
	for value := range 256 {
		c := byte(value)
		permitted := 'a' <= c && c <= 'z' || 'A' <= c && c <= 'Z' || c == ' ' || c == '$' || c == '%'
		b := string([]byte{c})
		for _, affix := range []string{b, b + "abc", "abc" + b, "a" + b + "b", b + b + b + b + b} {
			prefixed := api.Pat{Prefix: affix, MinInt: 1, MaxFrac: 1}
			suffixed := api.Pat{Suffix: affix, MinInt: 1, MaxFrac: 1}
			if permitted {
				checkBoth(t, prefixed, affix+"0.#")
				checkBoth(t, suffixed, "0.#"+affix)
				continue
			}
			checkCheck(t, prefixed, api.ErrForm)
			checkCheck(t, suffixed, api.ErrForm)
		}
	}
}

// With NP1 and NP2: a prefix and a suffix have 5 bytes at most, whatever they are.
func TestAffixLengthsNP1(t *testing.T) {
	for _, long := range []string{"abcdef", "      ", "$$$$$$", "Prefix", "abcde ", strings.Repeat("%", 256+5), strings.Repeat("a", 1000000)} {
		checkCheck(t, api.Pat{Prefix: long, MinInt: 1}, api.ErrForm)
		checkCheck(t, api.Pat{Suffix: long, MinInt: 1}, api.ErrForm)
		checkCheck(t, api.Pat{Prefix: long, Suffix: long, MinInt: 1}, api.ErrForm)
		checkRefused(t, long+"0")
		checkRefused(t, "0"+long)
		checkRefused(t, long)
	}
	for _, wide := range []string{"€", "é", "à la", "\u00a0", "％", "＄"} {
		checkCheck(t, api.Pat{Prefix: wide, MinInt: 1}, api.ErrForm)
		checkCheck(t, api.Pat{Suffix: wide, MinInt: 1}, api.ErrForm)
		checkRefused(t, wide+"0")
		checkRefused(t, "0"+wide)
	}
}

// wrongRanges tells patterns that have a number out of its range, but no wrong affix.
func wrongRanges() []api.Pat {
	list := []api.Pat{{}, {MinInt: 0, MaxFrac: 2, Group: 3}, {MinInt: 10}, {MinInt: -1}, {MinInt: 256 + 1}}
	for _, n := range []int{-1, -2, math.MinInt, math.MaxInt, 1<<32 + 1, 100} {
		list = append(list,
			api.Pat{MinInt: n},
			api.Pat{MinInt: 1, MinFrac: n},
			api.Pat{MinInt: 1, MinFrac: n, MaxFrac: 6},
			api.Pat{MinInt: 1, MaxFrac: n},
			api.Pat{MinInt: 1, MinFrac: n, MaxFrac: n},
			api.Pat{MinInt: 1, Group: n},
			api.Pat{MinInt: 1, Group: n, Group2: 2},
			api.Pat{MinInt: 1, Group: 3, Group2: n},
			api.Pat{MinInt: 1, Group: n, Group2: n},
		)
	}
	for maxFrac := range 7 {
		list = append(list, api.Pat{MinInt: 1, MinFrac: maxFrac + 1, MaxFrac: maxFrac})
	}
	return append(list,
		api.Pat{MinInt: 1, MaxFrac: 7},
		api.Pat{MinInt: 1, MinFrac: 6, MaxFrac: 7},
		api.Pat{MinInt: 1, MinFrac: 7, MaxFrac: 7},
		api.Pat{MinInt: 1, Group: 5},
		api.Pat{MinInt: 1, Group: 5, Group2: 4},
		api.Pat{MinInt: 1, Group: 4, Group2: 5},
		api.Pat{MinInt: 1, Group: 5, Group2: 5},
	)
}

// With NP1: each number is in its range.
func TestRangesNP1(t *testing.T) {
	for _, p := range wrongRanges() {
		checkCheck(t, p, api.ErrRange)
	}
	// A Group2 out of its range is that also if Group is 0.
	for _, group2 := range []int{-1, 5, math.MaxInt, math.MinInt} {
		checkCheck(t, api.Pat{MinInt: 1, Group2: group2}, api.ErrRange)
	}
}

// With NP1: there is no Group2 without a Group.
func TestGroup2AloneNP1(t *testing.T) {
	for _, p := range patterns() {
		if p.Group != 0 {
			continue
		}
		for p.Group2 = 1; p.Group2 <= 4; p.Group2++ {
			checkCheck(t, p, api.ErrForm)
		}
	}
}

// With NP1: a wrong affix is told before a wrong range, and that before a Group2 alone.
func TestErrorOrderNP1(t *testing.T) {
	for _, p := range wrongRanges() {
		for _, wrong := range []string{"0", "#", ".", ",", "-", "abcdef", "\x00", "\xff"} {
			prefixed, suffixed := p, p
			prefixed.Prefix, suffixed.Suffix = wrong, wrong
			checkCheck(t, prefixed, api.ErrForm)
			checkCheck(t, suffixed, api.ErrForm)
		}
		p.Prefix, p.Suffix = "US$", " %"
		checkCheck(t, p, api.ErrRange)
		if p.Group == 0 && p.Group2 == 0 {
			p.Group2 = 2
			checkCheck(t, p, api.ErrRange)
		}
	}
	checkCheck(t, api.Pat{Prefix: "-", MinInt: 1, Group2: 5}, api.ErrForm)
	checkCheck(t, api.Pat{Suffix: "-", MinInt: 1, Group2: 2}, api.ErrForm)
}

// With NP2: texts that are nearly those of patterns.
func TestRefusedNP2(t *testing.T) {
	for _, s := range []string{
		"", " ", "$", "abc", ".", ",", "-",
		// There is at least one zero before the point, and none before a #.
		"#", "##", "#.0", "#.#", "#,###", "#,##,###", ".0", ".#", "0#", "0#0", "#0#", "0,##0", "#,0#0",
		// Without groups nothing is in front of the zeros; with groups, as little as can be.
		"#0", "##0", "#00", "##,##0", "##,##,##0", "#0,000", "##,0", "#00,000", "##,#,0",
		// There is no group of more than 4, and at most two commas.
		"#,####0", "#,#####,0", "0,00000", "#,##,##,##0", "#,#,#,0", "0,0,0,0",
		// Something is before the comma, behind it and between two of them.
		",0", ",000", ",##0", "0,", "#,##0,", ",", "0,,0", "#,,##0", "#,##0,.0", "#,##,,##0", ",##,##0", "0,.0",
		// The first group has the placeholders that are left, and at least one.
		"##0", "000,00,00000", "0,0,00000", "0,00000,0",
		// Behind the point zeros are in front, and commas nowhere.
		"0.", "0.#0", "0.0#0", "0.##0", "0.0,0", "0.#,#", "0.000,000", "0.0000000", "0.#######", "0.00#####",
		"0..0", "0.0.0", "0.0.", ".", "0.0#.#", ".0.0",
		// At most 9 places are before the point.
		"0000000000", "0000000,000", "00,0000,0000", "000000000000", "#000000000",
		// Nothing else is between the placeholders.
		"0 0", "0$0", "# ,##0", "#, ##0", "#,##0 .0", "0. 0", "0.0 0", "0.0% #", "0 #", "0a0",
		"-0", "+0", "0-", "(0)", "1", "01", "10", "#,##1", "0.1", "0.01", "'0'", "0'000", "0;0", "\"0\"",
		"#.##0,0", "#'##0", "#_##0", "0,0.0,0",
		"０", "＃,＃＃0", "0\x00", "\x000", "0\xff", "\xff0", "\xc0\xb0",
	} {
		checkRefused(t, s)
	}
}

// textsOf tells all texts of these letters, up to a length.
func textsOf(letters string, length int) []string {
	texts, longest := []string{""}, []string{""}
	for range length {
		var longer []string
		for _, text := range longest {
			for _, letter := range letters {
				longer = append(longer, text+string(letter))
			}
		}
		texts, longest = append(texts, longer...), longer
	}
	return texts
}

// With NP2: of all short texts, Parse takes those that Text makes, and no other.
func TestAllTextsNP2(t *testing.T) {
	made := map[string]api.Pat{}
	for _, p := range patterns() {
		for prefix := range 6 {
			for suffix := range 6 {
				p.Prefix, p.Suffix = strings.Repeat("$", prefix), strings.Repeat("$", suffix)
				made[layOut(p)] = p
			}
		}
	}
	for _, s := range append(textsOf("0#,.", 9), textsOf("0#,.$", 7)...) {
		if p, found := made[s]; found {
			checkBoth(t, p, s)
		} else {
			checkRefused(t, s)
		}
	}
}

// With NP2: no two patterns have the same text, and Parse takes no text with a
// byte more, less or another but one of a pattern.
func TestChangedTextsNP2(t *testing.T) {
	made := map[string]api.Pat{}
	for _, p := range patterns() {
		text := layOut(p)
		if other, found := made[text]; found {
			t.Fatalf("%v and %v have the text %q", p, other, text)
		}
		made[text] = p
	}
	for _, p := range patterns() {
		for _, s := range changes(layOut(p)) {
			if other, found := made[s]; found {
				checkBoth(t, other, s)
			} else {
				checkRefused(t, s)
			}
		}
	}
}

// changes tells what a text is with one byte less, another byte, or one more.
func changes(text string) []string {
	var list []string
	for i := range len(text) {
		list = append(list, text[:i]+text[i+1:])
	}
	for _, letter := range "0#,." {
		for i := range len(text) {
			list = append(list, text[:i]+string(letter)+text[i+1:])
		}
		for i := range len(text) + 1 {
			list = append(list, text[:i]+string(letter)+text[i:])
		}
	}
	return list
}

// With NP2: what Parse takes of random texts is a pattern that Check accepts,
// and has that text.
func TestRandomTextsNP2(t *testing.T) {
	random := rand.New(rand.NewSource(2))
	const letters = "00000###,,..$% aZ1-\xff"
	taken := 0
	for range 300000 {
		b := make([]byte, random.Intn(12))
		for i := range b {
			b[i] = letters[random.Intn(len(letters))]
		}
		s := string(b)
		p, err := Parse(s)
		if err != nil {
			checkRefused(t, s)
			continue
		}
		taken++
		checkBoth(t, p, s)
	}
	if taken < 100 {
		t.Errorf("only %d random texts are those of patterns", taken)
	}
}

// With NP2 and P1: texts of some megabytes are no trouble.
func TestLongTextsNP2(t *testing.T) {
	const count = 5000000
	for _, piece := range []string{"0", "#", ",", ".", "$", "0,", "0.", "#,##", "\xff"} {
		long := strings.Repeat(piece, count)
		checkRefused(t, long)
		checkRefused(t, "#,##0"+long)
		checkRefused(t, long+"#,##0")
		checkRefused(t, "#,##0."+long)
	}
}
