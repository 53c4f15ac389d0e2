package list

import (
	"math/rand"
	"slices"
	"strconv"
	"strings"
	"testing"

	"linguister/api"
)

// checkJoin looks at the text of a list.
func checkJoin(t *testing.T, l []string, two, sep, last, want string) {
	t.Helper()
	if got := Join(l, two, sep, last); got != want {
		t.Errorf("Join(%q of %d, %q, %q, %q) = %.60q, want %.60q", l[:min(len(l), 5)], len(l), two, sep, last, got, want)
	}
}

// checkCount looks at the number of pieces of a text.
func checkCount(t *testing.T, s, sep string, want int) {
	t.Helper()
	if got, err := Count(s, sep); got != want || err != nil {
		t.Errorf("Count(%.60q, %.60q) = %d %v, want %d", s, sep, got, err, want)
	}
}

// With LI1: what is between the elements depends on how many there are.
func TestListsLI1(t *testing.T) {
	cases := []struct {
		l    []string
		text string
	}{
		{nil, ""},
		{[]string{}, ""},
		{[]string{"a"}, "a"},
		{[]string{"a", "b"}, "a & b"},
		{[]string{"a", "b", "c"}, "a, b and c"},
		{[]string{"a", "b", "c", "d"}, "a, b, c and d"},
		{[]string{"a", "b", "c", "d", "e"}, "a, b, c, d and e"},

		// Equal elements, longer ones, and those of other bytes.
		{[]string{"a", "a", "a", "a"}, "a, a, a and a"},
		{[]string{"one two", "three", "four five"}, "one two, three and four five"},
		{[]string{"Äpfel", "梨", "\xff"}, "Äpfel, 梨 and \xff"},
		{[]string{"\x00", "\x00"}, "\x00 & \x00"},

		// Empty elements are elements.
		{[]string{""}, ""},
		{[]string{"", ""}, " & "},
		{[]string{"a", ""}, "a & "},
		{[]string{"", "b"}, " & b"},
		{[]string{"", "", ""}, ",  and "},
		{[]string{"a", "", "c"}, "a,  and c"},
		{[]string{"", "", "", ""}, ", ,  and "},

		// Elements that are as what is between them.
		{[]string{", ", " and "}, ",  &  and "},
		{[]string{" & ", ", ", " and "}, " & , ,  and  and "},
		{[]string{"a & b"}, "a & b"},
	}
	for _, c := range cases {
		checkJoin(t, c.l, " & ", ", ", " and ", c.text)
	}
}

// With LI1: any text may be between the elements, also an empty one.
func TestBetweenLI1(t *testing.T) {
	cases := []struct {
		count          int
		two, sep, last string
		text           string
	}{
		{0, "2", "s", "l", ""},
		{1, "2", "s", "l", "a"},
		{2, "2", "s", "l", "a2b"},
		{3, "2", "s", "l", "asblc"},
		{4, "2", "s", "l", "asbscld"},
		{2, "", "s", "l", "ab"},
		{3, "", "s", "l", "asblc"},
		{2, "2", "", "l", "a2b"},
		{3, "2", "", "l", "ablc"},
		{2, "2", "s", "", "a2b"},
		{3, "2", "s", "", "asbc"},
		{1, "", "", "", "a"},
		{2, "", "", "", "ab"},
		{3, "", "", "", "abc"},
		{3, ", ", ", ", ", ", "a, b, c"},
		{3, " und ", "、", "と", "a、bとc"},
		{3, "%s", "%[1]s", "\n\x00\xff", "a%[1]sb\n\x00\xffc"},
	}
	letters := []string{"a", "b", "c", "d"}
	for _, c := range cases {
		checkJoin(t, letters[:c.count], c.two, c.sep, c.last, c.text)
	}
}

// put tells the text of a list, element by element.
func put(l []string, two, sep, last string) string {
	text := ""
	for i, element := range l {
		switch {
		case i == 0:
		case len(l) == 2:
			text += two
		case i == len(l)-1:
			text += last
		default:
			text += sep
		}
		text += element
	}
	return text
}

// randomText tells a text of few letters, and of any length up to 5.
func randomText(r *rand.Rand) string {
	text := make([]byte, r.Intn(6))
	for i := range text {
		text[i] = "ab,\xff"[r.Intn(4)]
	}
	return string(text)
}

// With LI1: lists of every length up to 60, against a second calculation.
func TestLengthsLI1(t *testing.T) {
	r := rand.New(rand.NewSource(13))
	for length := range 61 {
		for range 50 {
			l := make([]string, length)
			for i := range l {
				l[i] = randomText(r)
			}
			two, sep, last := randomText(r), randomText(r), randomText(r)
			checkJoin(t, l, two, sep, last, put(l, two, sep, last))
		}
	}
}

// With LI1 and P2: neither the list nor the memory behind it is changed.
func TestMemoryLI1(t *testing.T) {
	memory := []string{"a", "b", "c", "d", "e", "f"}
	before := slices.Clone(memory)
	for length := range len(memory) + 1 {
		Join(memory[:length], " & ", ", ", " and ")
		if !slices.Equal(memory, before) {
			t.Errorf("Join of %d changed the list: %q", length, memory)
		}
	}
}

// With LI1: as many pieces as the occurrences of sep make.
func TestPiecesLI1(t *testing.T) {
	cases := []struct {
		s, sep string
		count  int
	}{
		// Without an occurrence there is one piece, also of an empty string.
		{"", ",", 1},
		{"", "abc", 1},
		{"a", ",", 1},
		{"abc", "abcd", 1},
		{"ab", "ba", 1},
		{"a,b", ", ", 1},
		{"A", "a", 1},

		{"a,b", ",", 2},
		{"a,b,c", ",", 3},
		{"a, b, c", ", ", 3},
		{"one and two and three", " and ", 3},

		// Pieces may be empty.
		{",", ",", 2},
		{",a", ",", 2},
		{"a,", ",", 2},
		{",,", ",", 3},
		{",a,", ",", 3},
		{"abc", "abc", 2},

		// Occurrences do not overlap, and are searched from the left.
		{"aa", "aa", 2},
		{"aaa", "aa", 2},
		{"aaaa", "aa", 3},
		{"aaaaa", "aa", 3},
		{"aaaaa", "aaa", 2},
		{"aaaaaa", "aaa", 3},
		{"ababa", "aba", 2},
		{"abababa", "aba", 3},
		{"aabaabaa", "aabaa", 2},
		{"abaababa", "aba", 3},

		// Bytes are compared, and not runes.
		{"a\x00b\x00", "\x00", 3},
		{"\xff\xff", "\xff", 3},
		{"ä", "\xc3", 2},
		{"ä", "\xa4", 2},
		{"äöü", "\xc3", 4},
		{"梨、桃、柿", "、", 3},
	}
	for _, c := range cases {
		checkCount(t, c.s, c.sep, c.count)
	}
}

// pieces tells how many pieces there are, by taking one after the other off the front.
func pieces(s, sep string) int {
	count := 1
	for at := 0; at+len(sep) <= len(s); {
		if s[at:at+len(sep)] == sep {
			count++
			at += len(sep)
		} else {
			at++
		}
	}
	return count
}

// textsOf tells all texts of these letters, up to a length.
func textsOf(letters string, length int) []string {
	texts, longest := []string{""}, []string{""}
	for range length {
		var longer []string
		for _, text := range longest {
			for _, letter := range letters {
				longer = append(longer, text+string(letter))
			}
		}
		texts, longest = append(texts, longer...), longer
	}
	return texts
}

// With LI1: all short texts, against a second calculation.
func TestAllTextsLI1(t *testing.T) {
	for _, s := range textsOf("ab", 10) {
		for _, sep := range textsOf("ab", 5)[1:] {
			checkCount(t, s, sep, pieces(s, sep))
		}
	}
	for _, s := range textsOf("a,é", 6) {
		for _, sep := range textsOf("a,é", 3)[1:] {
			checkCount(t, s, sep, pieces(s, sep))
		}
	}
}

// With LI1: a list that is joined has as many pieces, if none has a sep of its own.
func TestBothWaysLI1(t *testing.T) {
	for length := 1; length <= 100; length++ {
		l := make([]string, length)
		for i := range l {
			l[i] = strconv.Itoa(i)
		}
		for _, sep := range []string{",", ", ", " and ", "::", "\xff"} {
			checkCount(t, Join(l, sep, sep, sep), sep, length)
		}
	}
}

// With LI1: nothing is divided by an empty sep.
func TestEmptySepLI1(t *testing.T) {
	for _, s := range []string{"", "a", "aaa", "a,b", "ä", "\xff", "\x00", strings.Repeat("a", 100000)} {
		if count, err := Count(s, ""); count != 0 || err != api.ErrForm {
			t.Errorf("Count(%.60q, \"\") = %d %v, want %v", s, count, err, api.ErrForm)
		}
	}
}

// With LI1 and P1: long texts and long lists are no trouble.
func TestLongTextsLI1(t *testing.T) {
	const count = 1000000
	l := make([]string, count)
	for i := range l {
		l[i] = "ab"
	}
	want := strings.Repeat("ab, ", count-2) + "ab and ab"
	checkJoin(t, l, " & ", ", ", " and ", want)
	checkCount(t, want, ", ", count-1)
	checkCount(t, want, "ab", count+1)
	checkCount(t, strings.Repeat("a", 2*count+1), "aa", count+1)
	checkCount(t, strings.Repeat("a", count), strings.Repeat("a", count), 2)
	checkCount(t, strings.Repeat("a", count), strings.Repeat("a", count+1), 1)
	checkCount(t, strings.Repeat("a", count), strings.Repeat("a", 1000)+"b", 1)
}
