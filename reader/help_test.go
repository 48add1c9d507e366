package reader_test

import (
	"strings"
	"testing"

	"plinth/api"
	"plinth/reader"
)

func num(n int) api.Form             { return api.Form{Kind: api.Num, N: n} }
func word(s string) api.Form         { return api.Form{Kind: api.Word, Text: s} }
func text(s string) api.Form         { return api.Form{Kind: api.Text, Text: s} }
func list(kids ...api.Form) api.Form { return api.Form{Kind: api.List, Kids: kids} }
func other(kind int) api.Form        { return api.Form{Kind: kind} }
func repeat(n int, f api.Form) api.Form { // a list of n times f
	kids := make([]api.Form, n)
	for i := range kids {
		kids[i] = f
	}
	return list(kids...)
}

// nest puts f into n lists, one in the other.
func nest(n int, f api.Form) api.Form {
	for range n {
		f = list(f)
	}
	return f
}

// one reads a form that must be one.
func one(t *testing.T, s string) api.Form {
	t.Helper()
	f, err := reader.One(s)
	if err != api.OK {
		t.Fatalf("One %q: error %d", s, err)
	}
	return f
}

// identical compares all fields of forms, the unused ones too.
func identical(a, b api.Form) bool {
	if a.Kind != b.Kind || a.N != b.N || a.Text != b.Text || len(a.Kids) != len(b.Kids) {
		return false
	}
	return identicalAll(a.Kids, b.Kids)
}

func identicalAll(a, b []api.Form) bool {
	if len(a) != len(b) {
		return false
	}
	for i := range a {
		if !identical(a[i], b[i]) {
			return false
		}
	}
	return true
}

// clone is a form that shares no Kids with f.
func clone(f api.Form) api.Form {
	kids := make([]api.Form, len(f.Kids))
	for i, kid := range f.Kids {
		kids[i] = clone(kid)
	}
	f.Kids = kids
	return f
}

// brief shortens a text for a message.
func brief(s string) string {
	if len(s) > 60 {
		return s[:40] + ".." + s[len(s)-15:]
	}
	return s
}

// everyText shows all texts of up to n of the letters.
func everyText(letters []string, n int, show func(s string)) {
	show("")
	if n == 0 {
		return
	}
	for _, l := range letters {
		everyTextBehind(l, letters, n-1, show)
	}
}

func everyTextBehind(front string, letters []string, n int, show func(s string)) {
	show(front)
	if n == 0 {
		return
	}
	for _, l := range letters {
		everyTextBehind(front+l, letters, n-1, show)
	}
}

// dice gives numbers that look like random ones, the same in each run.
type dice uint64

func (d *dice) below(n int) int {
	*d = *d*6364136223846793005 + 1442695040888963407
	return int(uint64(*d)>>33) % n
}

// form is a valid form of at most that depth.
func (d *dice) form(depth int) api.Form {
	kind := d.below(5)
	if depth <= 1 {
		kind = d.below(3)
	}
	switch kind {
	case api.Num:
		return num([]int{0, 1, -1, 7, -12, api.MaxInt, -api.MaxInt}[d.below(7)])
	case api.Word:
		return word([]string{"a", "b", "-", "-a", "1a", "+", "a_1", "\\", strings.Repeat("w", api.MaxName)}[d.below(9)])
	case api.Text:
		return text([]string{"", "a", "\n", "\"", "\\", "a b", "; (", "\\n", strings.Repeat("\n", 40)}[d.below(9)])
	}
	kids := make([]api.Form, d.below(4))
	for i := range kids {
		kids[i] = d.form(depth - 1)
	}
	return list(kids...)
}

// forms are valid forms, short and long ones.
func (d *dice) forms(n int) []api.Form {
	l := make([]api.Form, n)
	for i := range l {
		l[i] = d.form(1 + d.below(5))
	}
	return l
}

// paths shows each path of f with the part that stands there.
func paths(f api.Form, path []int, show func(path []int, part api.Form)) {
	show(path, f)
	if f.Kind != api.List {
		return
	}
	for i, kid := range f.Kids {
		paths(kid, append(path[:len(path):len(path)], i), show)
	}
}
