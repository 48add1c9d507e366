package shape_test

import (
	"slices"
	"strings"
	"testing"

	"plinth/api"
	"plinth/reader"
	"plinth/shape"
)

func num(n int) api.Form             { return api.Form{Kind: api.Num, N: n} }
func word(s string) api.Form         { return api.Form{Kind: api.Word, Text: s} }
func text(s string) api.Form         { return api.Form{Kind: api.Text, Text: s} }
func list(kids ...api.Form) api.Form { return api.Form{Kind: api.List, Kids: kids} }

// form reads a text that must be one form.
func form(s string) api.Form {
	f, err := reader.One(s)
	if err != api.OK {
		panic("no form: " + s)
	}
	return f
}

// written are forms as one text.
func written(l []api.Form) string {
	var out []string
	for _, f := range l {
		out = append(out, reader.Write(f))
	}
	return strings.Join(out, " ")
}

// identical compares all fields of forms, the unused ones too.
func identical(a, b api.Form) bool {
	return a.Kind == b.Kind && a.N == b.N && a.Text == b.Text && slices.EqualFunc(a.Kids, b.Kids, identical)
}

// clone is a form that shares no Kids with f.
func clone(f api.Form) api.Form {
	kids := make([]api.Form, len(f.Kids))
	for i, kid := range f.Kids {
		kids[i] = clone(kid)
	}
	f.Kids = kids
	return f
}

// nest puts f into n expressions with a head, one in the other.
func nest(n int, head string, f api.Form) api.Form {
	for range n {
		f = list(word(head), f)
	}
	return f
}

// repeat is a list of a head and n times f.
func repeat(head string, n int, f api.Form) api.Form {
	kids := []api.Form{word(head)}
	for range n {
		kids = append(kids, f)
	}
	return list(kids...)
}

// hostile are forms that are not valid.
func hostile() map[string]api.Form {
	a := word("a")
	return map[string]api.Form{
		"an empty word":        word(""),
		"a word of digits":     word("12"),
		"a word with a blank":  word("a b"),
		"a word too long":      word(strings.Repeat("a", api.MaxName+1)),
		"a word with Kids":     {Kind: api.Word, Text: "a", Kids: []api.Form{a}},
		"a word with N":        {Kind: api.Word, Text: "a", N: 1},
		"a number too great":   num(api.MaxInt + 1),
		"a number with a name": {Kind: api.Num, Text: "a"},
		"a text with 9":        text("\t"),
		"a list with N":        {Kind: api.List, N: 1, Kids: []api.Form{word("neg"), a}},
		"a list with text":     {Kind: api.List, Text: "a", Kids: []api.Form{word("neg"), a}},
		"an empty head":        list(word(""), a),
		"a kind":               {Kind: 4, Text: "a", Kids: []api.Form{a}},
		"a kind below":         {Kind: -1, Text: "a"},
		"a kind within":        list(word("neg"), api.Form{Kind: 9}),
		"too deep":             nest(api.MaxDeep, "neg", a),
		"much too deep":        nest(5000, "neg", a),
		"too many parts":       repeat("and", api.MaxForm-1, a),
	}
}

// A question is one of Expr, Stmt and Decl.
type question struct {
	name string
	ask  func(f api.Form) api.Errno
}

func questions() []question {
	return []question{{"Expr", shape.Expr}, {"Stmt", shape.Stmt}, {"Decl", shape.Decl}}
}

// A told is a form, and what is told of it.
type told struct {
	f    string
	want api.Errno
}

// asked fails where one of the forms is told otherwise.
func asked(t *testing.T, q question, cases []told) {
	t.Helper()
	for _, c := range cases {
		f := form(c.f)
		before := clone(f)
		if got := q.ask(f); got != c.want {
			t.Errorf("%s %s: error %d, want %d", q.name, c.f, got, c.want)
		}
		if !identical(f, before) {
			t.Errorf("%s has changed %s", q.name, c.f)
		}
	}
}

// allTold are forms of which one thing is told.
func allTold(want api.Errno, forms ...string) []told {
	var cases []told
	for _, f := range forms {
		cases = append(cases, told{f, want})
	}
	return cases
}

// within puts each form of which something is told in the place of an @.
func within(around string, cases []told) []told {
	var out []told
	for _, c := range cases {
		out = append(out, told{strings.Replace(around, "@", c.f, 1), c.want})
	}
	return out
}

// dice gives numbers that look like random ones, the same in each run.
type dice uint64

func (d *dice) below(n int) int {
	*d = *d*6364136223846793005 + 1442695040888963407
	return int(uint64(*d)>>33) % n
}
