package pick

import (
	"reflect"
	"slices"
	"strings"
	"testing"

	"linguister/api"
	"linguister/chain"
	"linguister/tag"
)

// parse tells the tag of a name that has one.
func parse(t *testing.T, name string) api.Tag {
	t.Helper()
	parsed, err := tag.Parse(name)
	if err != nil {
		t.Fatalf("Parse(%q): %v", name, err)
	}
	return parsed
}

// parseAll tells the tags of names that are separated by spaces.
func parseAll(t *testing.T, names string) []api.Tag {
	t.Helper()
	var tags []api.Tag
	for _, name := range strings.Fields(names) {
		tags = append(tags, parse(t, name))
	}
	return tags
}

// invalidTags tells tags for each error of tag.Check.
func invalidTags() []struct {
	tag  api.Tag
	want error
} {
	return []struct {
		tag  api.Tag
		want error
	}{
		{api.Tag{}, api.ErrForm},
		{api.Tag{Lang: "DE"}, api.ErrForm},
		{api.Tag{Lang: "de", Script: "latn"}, api.ErrForm},
		{api.Tag{Lang: "de", Region: "at"}, api.ErrForm},
		{api.Tag{Lang: "de", Variants: []string{"vale"}}, api.ErrForm},
		{api.Tag{Lang: "de", Variants: []string{"valen", "valen"}}, api.ErrTwice},
		{api.Tag{Lang: "de", Variants: []string{"11111", "22222", "33333", "44444"}}, api.ErrFull},
	}
}

// With PK1: the order of want goes first, then that of the chain, and last that of have.
func TestPickPK1(t *testing.T) {
	cases := []struct {
		name       string
		want, have string
		index      int
	}{
		{"only one", "de", "de", 0},
		{"not the first of have", "de", "en fr de", 2},
		{"by the chain", "de-AT", "en de de-CH", 1},
		{"by the end of a long chain", "de-Latn-AT-valen-other", "en de", 1},
		{"by the middle of a long chain", "de-Latn-AT-valen-other", "de de-Latn-AT de-Latn", 1},
		{"all parts", "de-Latn-AT-valen-other", "de-Latn-AT-valen de-Latn-AT-valen-other", 1},

		{"chain before have", "de-AT", "de de-AT", 1},
		{"chain before have, no step between", "de-Latn-AT", "de de-Latn", 1},
		{"want before have", "de en", "en de", 1},
		{"want before have, found late", "fr de en", "en de", 1},
		{"chain of one before the next one", "de-AT en", "en de", 1},
		{"whole chain before an exact one", "de-Latn-AT-valen de-CH", "de-CH de", 1},
		{"second of want", "fr de-AT en", "en de de-CH", 1},
		{"last of want", "fr it en-GB", "de en", 1},

		{"equal ones in have", "de", "en de de", 1},
		{"equal ones in have, by the chain", "de-AT", "en de de de-CH de", 1},
		{"equal ones apart", "de-AT", "de en de-AT de de-AT", 2},
		{"equal ones in want", "fr fr de de", "en de", 1},
	}
	for _, c := range cases {
		got, err := Pick(parseAll(t, c.want), parseAll(t, c.have))
		if err != nil || got != c.index {
			t.Errorf("%s: Pick(%s; %s) = %d %v, want %d", c.name, c.want, c.have, got, err, c.index)
		}
	}
}

// With PK1: ErrNone if no tag of want has any tag of its chain in have.
func TestPickNonePK1(t *testing.T) {
	cases := []struct{ want, have string }{
		{"", ""},
		{"de", ""},
		{"", "de"},
		{"fr", "en de de-CH"},
		{"fr it", "en de"},
		{"de", "de-AT de-Latn de-valen"},
		{"de-AT", "de-CH de-AT-valen"},
		{"de-Latn-AT", "de-AT"},
		{"de-Latn-valen-other", "de-valen de-Latn-other de-Latn-other-valen"},
		{"deu", "de"},
		{"de", "deu"},
		{"de-AT", "en-AT"},
	}
	for _, c := range cases {
		got, err := Pick(parseAll(t, c.want), parseAll(t, c.have))
		if err != api.ErrNone || got != 0 {
			t.Errorf("Pick(%s; %s) = %d %v, want 0 ErrNone", c.want, c.have, got, err)
		}
	}
}

// With PK1: the errors of tag.Check for any tag of either list, wherever it is, even beside one that is found.
func TestPickErrorsPK1(t *testing.T) {
	de, en := api.Tag{Lang: "de"}, api.Tag{Lang: "en"}
	for _, c := range invalidTags() {
		lists := []struct{ want, have []api.Tag }{
			{[]api.Tag{c.tag}, nil},
			{[]api.Tag{c.tag}, []api.Tag{de}},
			{[]api.Tag{c.tag, de}, []api.Tag{de}},
			{[]api.Tag{de, c.tag}, []api.Tag{de}},
			{[]api.Tag{de, en, c.tag}, []api.Tag{de, en}},
			{nil, []api.Tag{c.tag}},
			{[]api.Tag{de}, []api.Tag{c.tag}},
			{[]api.Tag{de}, []api.Tag{c.tag, de}},
			{[]api.Tag{de}, []api.Tag{de, c.tag}},
			{[]api.Tag{de}, []api.Tag{de, en, c.tag}},
			{[]api.Tag{c.tag}, []api.Tag{c.tag}},
		}
		for _, l := range lists {
			if got, err := Pick(l.want, l.have); err != c.want || got != 0 {
				t.Errorf("Pick(%q; %q) = %d %v, want 0 %v", l.want, l.have, got, err, c.want)
			}
		}
	}
}

// With PK1: the first invalid tag of want is told, and that of have only if want has none.
func TestPickErrorOrderPK1(t *testing.T) {
	de := api.Tag{Lang: "de"}
	for _, a := range invalidTags() {
		for _, b := range invalidTags() {
			lists := []struct{ want, have []api.Tag }{
				{[]api.Tag{a.tag, b.tag}, []api.Tag{de}},
				{[]api.Tag{de, a.tag, b.tag}, []api.Tag{de}},
				{[]api.Tag{de}, []api.Tag{a.tag, b.tag}},
				{[]api.Tag{de}, []api.Tag{de, a.tag, b.tag}},
				{[]api.Tag{a.tag}, []api.Tag{b.tag}},
				{[]api.Tag{de, a.tag}, []api.Tag{b.tag, de}},
			}
			for _, l := range lists {
				if got, err := Pick(l.want, l.have); err != a.want || got != 0 {
					t.Errorf("Pick(%q; %q) = %d %v, want 0 %v", l.want, l.have, got, err, a.want)
				}
			}
		}
	}
}

// With PK1: all indices in order, of the tag itself and of those that are more special.
func TestAllPK1(t *testing.T) {
	cases := []struct {
		want, have string
		indices    []int
	}{
		{"de", "en de de-CH", []int{1, 2}},
		{"de", "de-CH en de", []int{0, 2}},
		{"de", "de", []int{0}},
		{"de", "de de de-AT de", []int{0, 1, 2, 3}},
		{"de", "de-Latn de-AT de-valen de-Latn-AT-valen-other deu en-DE", []int{0, 1, 2, 3}},
		{"de-AT", "de de-AT de-CH de-AT-valen de-Latn-AT en-AT", []int{1, 3}},
		{"de-Latn", "de de-Latn de-Cyrl de-Latn-AT de-Latn-valen de-AT", []int{1, 3, 4}},
		{"de-valen", "de-valen de-valen-other de-other-valen de-AT-valen de", []int{0, 1}},
		{"de-Latn-AT-valen-other", "de de-Latn-AT-valen-other de-Latn-AT-valen", []int{1}},
		{"de", "", nil},
		{"fr", "en de de-CH", nil},
		{"de-AT", "de en", nil},
		{"de", "deu", nil},
	}
	for _, c := range cases {
		got, err := All(parse(t, c.want), parseAll(t, c.have))
		if err != nil || !slices.Equal(got, c.indices) {
			t.Errorf("All(%s; %s) = %v %v, want %v", c.want, c.have, got, err, c.indices)
		}
	}
}

// With PK1: the errors of tag.Check, first for want and then for the elements of have, with no indices.
func TestAllErrorsPK1(t *testing.T) {
	de, en := api.Tag{Lang: "de"}, api.Tag{Lang: "en"}
	for _, a := range invalidTags() {
		lists := []struct {
			want api.Tag
			have []api.Tag
		}{
			{a.tag, nil},
			{a.tag, []api.Tag{de}},
			{de, []api.Tag{a.tag}},
			{de, []api.Tag{a.tag, de}},
			{de, []api.Tag{de, en, a.tag}},
		}
		for _, b := range invalidTags() {
			lists = append(lists, struct {
				want api.Tag
				have []api.Tag
			}{a.tag, []api.Tag{b.tag}}, struct {
				want api.Tag
				have []api.Tag
			}{de, []api.Tag{de, a.tag, b.tag}})
		}
		for _, l := range lists {
			if got, err := All(l.want, l.have); err != a.want || len(got) != 0 {
				t.Errorf("All(%q; %q) = %v %v, want nothing and %v", l.want, l.have, got, err, a.want)
			}
		}
	}
}

// With PK1: for many pairs of tags, both functions agree with the chain.
func TestPairsPK1(t *testing.T) {
	tags := manyTags()
	for _, one := range tags {
		for _, other := range tags {
			within, err := chain.Within(one, other)
			if err != nil {
				t.Fatalf("Within(%q, %q): %v", one, other, err)
			}
			_, err = Pick([]api.Tag{one}, []api.Tag{other})
			if within && err != nil || !within && err != api.ErrNone {
				t.Errorf("Pick(%q; %q): %v, and Within is %v", one, other, err, within)
			}
			all, err := All(other, []api.Tag{one})
			if err != nil || (len(all) == 1) != within {
				t.Errorf("All(%q; %q) = %v %v, and Within is %v", other, one, all, err, within)
			}
		}
	}
}

// manyTags tells tags with all combinations of some parts.
func manyTags() []api.Tag {
	var tags []api.Tag
	for _, lang := range []string{"de", "deu"} {
		for _, script := range []string{"", "Latn", "Cyrl"} {
			for _, region := range []string{"", "AT", "419"} {
				for _, variants := range [][]string{nil, {}, {"valen"}, {"other"}, {"valen", "other"}} {
					tags = append(tags, api.Tag{Lang: lang, Script: script, Region: region, Variants: variants})
				}
			}
		}
	}
	return tags
}

// With P5: long lists are no reason to wait.
func TestLongListsPK1(t *testing.T) {
	const many = 200000
	want := make([]api.Tag, many)
	have := make([]api.Tag, many)
	for i := range many {
		want[i] = api.Tag{Lang: "de", Region: "AT"}
		have[i] = api.Tag{Lang: "fr", Region: "CA"}
	}
	if got, err := Pick(want, have); err != api.ErrNone || got != 0 {
		t.Errorf("Pick = %d %v, want 0 ErrNone", got, err)
	}
	have[many-1] = api.Tag{Lang: "de"}
	if got, err := Pick(want, have); err != nil || got != many-1 {
		t.Errorf("Pick = %d %v, want the last one", got, err)
	}
	if got, err := All(api.Tag{Lang: "fr"}, have); err != nil || len(got) != many-1 {
		t.Errorf("All has %d indices and %v, want %d", len(got), err, many-1)
	}
}

// With P2: arguments are left alone, also behind their length, and no result shares memory.
func TestMemoryPK1(t *testing.T) {
	variants := []string{"valen", "other", "kept"}
	memory := []api.Tag{
		{Lang: "de", Variants: variants[:2]},
		{Lang: "de", Variants: variants[:1]},
		{Lang: "kept", Variants: variants},
	}
	before := []api.Tag{
		{Lang: "de", Variants: []string{"valen", "other"}},
		{Lang: "de", Variants: []string{"valen"}},
		{Lang: "kept", Variants: []string{"valen", "other", "kept"}},
	}
	given := memory[:2]
	if got, err := Pick(given, given); err != nil || got != 0 {
		t.Errorf("Pick = %d %v, want 0", got, err)
	}
	one, _ := All(given[1], given)
	other, err := All(given[1], given)
	if err != nil || !slices.Equal(other, []int{0, 1}) {
		t.Fatalf("All = %v %v, want both", other, err)
	}
	one = one[:cap(one)]
	for i := range one {
		one[i] = -1
	}
	if !slices.Equal(other, []int{0, 1}) {
		t.Errorf("two results share memory")
	}
	if !reflect.DeepEqual(memory, before) {
		t.Errorf("the argument is now %q", memory)
	}
}
