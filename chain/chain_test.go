package chain

import (
	"reflect"
	"slices"
	"testing"

	"linguister/api"
	"linguister/tag"
)

// texts tells the texts of tags.
func texts(tags []api.Tag) []string {
	var names []string
	for _, t := range tags {
		names = append(names, tag.Text(t))
	}
	return names
}

// parse tells the tag of a name that has one.
func parse(t *testing.T, name string) api.Tag {
	t.Helper()
	parsed, err := tag.Parse(name)
	if err != nil {
		t.Fatalf("Parse(%q): %v", name, err)
	}
	return parsed
}

// With CH1: the tag comes first, then each part is removed from the end; empty parts make no step.
func TestChainCH1(t *testing.T) {
	cases := []struct {
		name string
		want []string
	}{
		{"de", []string{"de"}},
		{"deu", []string{"deu"}},
		{"de-AT", []string{"de-AT", "de"}},
		{"en-419", []string{"en-419", "en"}},
		{"de-Latn", []string{"de-Latn", "de"}},
		{"de-Latn-AT", []string{"de-Latn-AT", "de-Latn", "de"}},
		{"de-valen", []string{"de-valen", "de"}},
		{"de-Latn-valen", []string{"de-Latn-valen", "de-Latn", "de"}},
		{"de-AT-valen", []string{"de-AT-valen", "de-AT", "de"}},
		{"de-zzzzz-aaaaa", []string{"de-zzzzz-aaaaa", "de-zzzzz", "de"}},
		{"abc-Abcd-123-zzzzz-aaaaa-mmmmm", []string{
			"abc-Abcd-123-zzzzz-aaaaa-mmmmm",
			"abc-Abcd-123-zzzzz-aaaaa",
			"abc-Abcd-123-zzzzz",
			"abc-Abcd-123",
			"abc-Abcd",
			"abc",
		}},
	}
	for _, c := range cases {
		got, err := Chain(parse(t, c.name))
		if err != nil || !slices.Equal(texts(got), c.want) {
			t.Errorf("Chain(%q) = %q %v, want %q", c.name, texts(got), err, c.want)
		}
	}
}

// With CH1: the elements are tags, each part in its field, and not only texts that look right.
func TestChainFieldsCH1(t *testing.T) {
	given := api.Tag{Lang: "de", Script: "Latn", Region: "AT", Variants: []string{"valen", "other"}}
	want := []api.Tag{
		given,
		{Lang: "de", Script: "Latn", Region: "AT", Variants: []string{"valen"}},
		{Lang: "de", Script: "Latn", Region: "AT"},
		{Lang: "de", Script: "Latn"},
		{Lang: "de"},
	}
	got, err := Chain(given)
	if err != nil || !slices.EqualFunc(got, want, equalTags) {
		t.Errorf("Chain(%q) = %q %v, want %q", given, got, err, want)
	}
	got, err = Chain(api.Tag{Lang: "de", Variants: []string{}})
	if err != nil || len(got) != 1 || !equalTags(got[0], api.Tag{Lang: "de"}) {
		t.Errorf("with an empty list of variants: %q %v, want only de", got, err)
	}
}

// equalTags compares without regard to empty lists being nil or not.
func equalTags(a, b api.Tag) bool {
	if len(a.Variants) == 0 && len(b.Variants) == 0 {
		a.Variants, b.Variants = nil, nil
	}
	return reflect.DeepEqual(a, b)
}

// invalidTags tells tags for each error of tag.Check.
func invalidTags() []struct {
	tag  api.Tag
	want error
} {
	return []struct {
		tag  api.Tag
		want error
	}{
		{api.Tag{}, api.ErrForm},
		{api.Tag{Lang: "DE"}, api.ErrForm},
		{api.Tag{Lang: "de", Script: "latn"}, api.ErrForm},
		{api.Tag{Lang: "de", Region: "at"}, api.ErrForm},
		{api.Tag{Lang: "de", Variants: []string{"vale"}}, api.ErrForm},
		{api.Tag{Lang: "de", Variants: []string{"valen", "valen"}}, api.ErrTwice},
		{api.Tag{Lang: "de", Variants: []string{"11111", "22222", "33333", "44444"}}, api.ErrFull},
	}
}

// With CH1: the errors of tag.Check, with no chain, even if a shorter tag would be valid.
func TestChainErrorsCH1(t *testing.T) {
	for _, c := range invalidTags() {
		got, err := Chain(c.tag)
		if err != c.want || len(got) != 0 {
			t.Errorf("Chain(%q) = %q %v, want nothing and %v", c.tag, got, err, c.want)
		}
	}
}

// With CH1: of is within the chain of t if it is t without parts at the end, and only then.
func TestWithinCH1(t *testing.T) {
	cases := []struct {
		t, of string
		want  bool
	}{
		{"de", "de", true},
		{"de-AT", "de", true},
		{"de-Latn-AT", "de-Latn", true},
		{"de-Latn-AT", "de-Latn-AT", true},
		{"de-Latn-AT-valen-other", "de-Latn-AT-valen", true},
		{"de-Latn-AT-valen-other", "de-Latn-AT-valen-other", true},
		{"de-Latn-AT-valen-other", "de-Latn-AT", true},
		{"de-Latn-AT-valen-other", "de", true},
		{"de-valen", "de", true},

		{"de", "de-AT", false},
		{"de", "en", false},
		{"deu", "de", false},
		{"de", "deu", false},
		{"de-AT", "de-CH", false},
		{"de-AT", "en-AT", false},
		{"de-Latn-AT", "de-AT", false},
		{"de-Latn-AT", "de-Cyrl", false},
		{"de-Latn-AT", "en-Latn-AT", false},
		{"de-AT-valen", "de-valen", false},
		{"de-valen-other", "de-other", false},
		{"de-valen-other", "de-other-valen", false},
		{"de-valen", "de-valen-other", false},
		{"de-AT-valen", "de-AT-valex", false},
	}
	for _, c := range cases {
		got, err := Within(parse(t, c.t), parse(t, c.of))
		if err != nil || got != c.want {
			t.Errorf("Within(%q, %q) = %v %v, want %v", c.t, c.of, got, err, c.want)
		}
	}
}

// With CH1: nil and an empty list of variants are the same tag.
func TestWithinEmptyListCH1(t *testing.T) {
	bare, empty := api.Tag{Lang: "de"}, api.Tag{Lang: "de", Variants: []string{}}
	for _, pair := range [][2]api.Tag{{bare, empty}, {empty, bare}, {empty, empty}} {
		if got, err := Within(pair[0], pair[1]); err != nil || !got {
			t.Errorf("Within(%#v, %#v) = %v %v, want true", pair[0], pair[1], got, err)
		}
	}
}

// With CH1: the errors of t come before those of of, and false with each of them.
func TestWithinErrorsCH1(t *testing.T) {
	valid := api.Tag{Lang: "de"}
	for _, c := range invalidTags() {
		if got, err := Within(c.tag, valid); err != c.want || got {
			t.Errorf("Within(%q, de) = %v %v, want %v", c.tag, got, err, c.want)
		}
		if got, err := Within(valid, c.tag); err != c.want || got {
			t.Errorf("Within(de, %q) = %v %v, want %v", c.tag, got, err, c.want)
		}
		if got, err := Within(c.tag, c.tag); err != c.want || got {
			t.Errorf("Within(%q, itself) = %v %v, want %v", c.tag, got, err, c.want)
		}
		for _, other := range invalidTags() {
			if got, err := Within(c.tag, other.tag); err != c.want || got {
				t.Errorf("Within(%q, %q) = %v %v, want %v", c.tag, other.tag, got, err, c.want)
			}
		}
	}
}

// With P2: the argument is left alone, also behind its length, and no two tags share memory.
func TestMemoryCH1(t *testing.T) {
	memory := []string{"aaaaa", "bbbbb", "ccccc", "kept"}
	given := api.Tag{Lang: "de", Variants: memory[:3]}
	chain, err := Chain(given)
	if err != nil || len(chain) != 4 {
		t.Fatalf("Chain = %q %v, want 4 tags", chain, err)
	}
	if _, err := Within(given, given); err != nil {
		t.Fatalf("Within: %v", err)
	}
	for i := range chain {
		all := chain[i].Variants[:cap(chain[i].Variants)]
		for j := range all {
			all[j] = "changed"
		}
		for _, later := range chain[i+1:] {
			if slices.Contains(later.Variants, "changed") {
				t.Errorf("tag %d shares memory with a later one", i)
			}
		}
	}
	if !slices.Equal(memory, []string{"aaaaa", "bbbbb", "ccccc", "kept"}) {
		t.Errorf("the argument is now %q", memory)
	}
	again, _ := Chain(given)
	if !slices.Equal(texts(again), []string{"de-aaaaa-bbbbb-ccccc", "de-aaaaa-bbbbb", "de-aaaaa", "de"}) {
		t.Errorf("the second chain is %q", texts(again))
	}
}
