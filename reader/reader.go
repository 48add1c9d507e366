// Package reader is layer 1: it reads forms from text and writes them as
// text. See shared/doc/01-reader.md.
package reader

import (
	"slices"

	"plinth/api"
)

// Read reads all forms of a text.
func Read(s string) ([]api.Form, api.Errno) {
	if len(s) > api.MaxText {
		return nil, api.ErrLimit
	}
	r := &scanner{text: s, open: [][]api.Form{nil}}
	for r.at < len(s) {
		if err := r.step(); err != api.OK {
			return nil, err
		}
	}
	if len(r.open) > 1 {
		return nil, api.ErrEnd
	}
	forms := r.open[0]
	// The scanner lets nothing but valid forms through, as far as it looks:
	// it counts neither parts nor depth, so only these can be wrong here.
	if !all(forms, Valid) {
		return nil, api.ErrLimit
	}
	return forms, api.OK
}

// One reads a text that is just one form.
func One(s string) (api.Form, api.Errno) {
	forms, err := Read(s)
	if err != api.OK {
		return api.Form{}, err
	}
	if len(forms) != 1 {
		return api.Form{}, api.ErrForm
	}
	return forms[0], api.OK
}

// Write is a form as text, empty for one that is not valid.
func Write(f api.Form) string {
	if !Valid(f) {
		return ""
	}
	return string(appendForm(nil, f))
}

// WriteAll is forms as text, each with a line feed behind it.
func WriteAll(l []api.Form) string {
	var out []byte
	for _, f := range l {
		if Valid(f) {
			out = appendForm(out, f)
		}
		out = append(out, '\n')
	}
	return string(out)
}

// Sum is a checksum of a form as text.
func Sum(f api.Form) int {
	sum := 7
	for _, b := range []byte(Write(f)) {
		sum = (31*sum + int(b)) % 1000003
	}
	return sum
}

// Head is the first word of a list, empty where there is none.
func Head(f api.Form) string {
	parts := kids(f)
	if len(parts) == 0 || parts[0].Kind != api.Word {
		return ""
	}
	return parts[0].Text
}

// At is the part of a form at a path.
func At(f api.Form, path []int) (api.Form, api.Errno) {
	for _, i := range path {
		parts := kids(f)
		if i < 0 || i >= len(parts) {
			return api.Form{}, api.ErrNone
		}
		f = parts[i]
	}
	return f, api.OK
}

// Put is a form with g as its part at a path.
func Put(f api.Form, path []int, g api.Form) (api.Form, api.Errno) {
	if _, err := At(f, path); err != api.OK {
		return api.Form{}, err
	}
	whole := put(f, path, g)
	if !Valid(whole) {
		return api.Form{}, api.ErrLimit
	}
	return whole, api.OK
}

// put does what Put does, at a path that is there.
func put(f api.Form, path []int, g api.Form) api.Form {
	if len(path) == 0 {
		return g
	}
	parts := slices.Clone(f.Kids)
	parts[path[0]] = put(parts[path[0]], path[1:], g)
	f.Kids = parts
	return f
}

// Sort is forms ascending, each once.
func Sort(l []api.Form) []api.Form {
	sorted := slices.Clone(l)
	// Equal forms may still differ in what is not looked at, so it matters
	// that the sort keeps their order: the first one stays.
	slices.SortStableFunc(sorted, Compare)
	return slices.CompactFunc(sorted, Equal)
}
