// Package tag has languages by name.
package tag

import (
	"strings"

	"linguister/api"
)

const (
	maxVariants = 3
	maxParts    = 3 + maxVariants // Lang, Script, Region and the variants
)

// permitted is a set of permitted bytes.
type permitted func(c byte) bool

// fills reports whether s consists of least to most permitted bytes.
func (p permitted) fills(s string, least, most int) bool {
	if len(s) < least || len(s) > most {
		return false
	}
	for i := range len(s) {
		if !p(s[i]) {
			return false
		}
	}
	return true
}

func isLower(c byte) bool { return 'a' <= c && c <= 'z' }

func isUpper(c byte) bool { return 'A' <= c && c <= 'Z' }

func isDigit(c byte) bool { return '0' <= c && c <= '9' }

func isLowerOrDigit(c byte) bool { return isLower(c) || isDigit(c) }

func isLang(s string) bool { return permitted(isLower).fills(s, 2, 3) }

func isScript(s string) bool {
	return len(s) == 4 && isUpper(s[0]) && permitted(isLower).fills(s[1:], 3, 3)
}

func isRegion(s string) bool {
	return permitted(isUpper).fills(s, 2, 2) || permitted(isDigit).fills(s, 3, 3)
}

func isVariant(s string) bool { return permitted(isLowerOrDigit).fills(s, 5, 8) }

// Check tells what is wrong with a tag.
func Check(t api.Tag) error {
	if !isLang(t.Lang) {
		return api.ErrForm
	}
	if t.Script != "" && !isScript(t.Script) {
		return api.ErrForm
	}
	if t.Region != "" && !isRegion(t.Region) {
		return api.ErrForm
	}
	return checkVariants(t.Variants)
}

// checkVariants looks at all variants before it counts them: an invalid or a
// repeated one is reported even if there are too many.
func checkVariants(variants []string) error {
	seen := map[string]bool{}
	for _, v := range variants {
		if !isVariant(v) {
			return api.ErrForm
		}
		if seen[v] {
			return api.ErrTwice
		}
		seen[v] = true
	}
	if len(variants) > maxVariants {
		return api.ErrFull
	}
	return nil
}

// Text tells a tag's name: the parts that are not empty, whether they are valid or not.
func Text(t api.Tag) string {
	var parts []string
	for _, p := range append([]string{t.Lang, t.Script, t.Region}, t.Variants...) {
		if p != "" {
			parts = append(parts, p)
		}
	}
	return strings.Join(parts, "-")
}

// Parse tells the tag of a name.
func Parse(s string) (api.Tag, error) {
	parts := strings.SplitN(s, "-", maxParts+1)
	if len(parts) > maxParts {
		return api.Tag{}, api.ErrForm
	}
	t := assign(parts)
	if Check(t) != nil {
		return api.Tag{}, api.ErrForm
	}
	return t, nil
}

// assign gives each part its place by its length, in the case that is usual
// there. Parts that fit nowhere become variants, for Check to refuse.
func assign(parts []string) api.Tag {
	t := api.Tag{Lang: lower(parts[0])}
	rest := parts[1:]
	if len(rest) > 0 && len(rest[0]) == 4 {
		t.Script = upper(rest[0][:1]) + lower(rest[0][1:])
		rest = rest[1:]
	}
	if len(rest) > 0 && (len(rest[0]) == 2 || len(rest[0]) == 3) {
		t.Region = upper(rest[0])
		rest = rest[1:]
	}
	for _, v := range rest {
		t.Variants = append(t.Variants, lower(v))
	}
	return t
}

// lower and upper change ASCII letters only: strings.ToLower would turn the
// Kelvin sign, which no tag has, into the letter k.
func lower(s string) string {
	b := []byte(s)
	for i, c := range b {
		if isUpper(c) {
			b[i] = c - 'A' + 'a'
		}
	}
	return string(b)
}

func upper(s string) string {
	b := []byte(s)
	for i, c := range b {
		if isLower(c) {
			b[i] = c - 'a' + 'A'
		}
	}
	return string(b)
}
