package module_test

import (
	"slices"
	"strconv"
	"strings"
	"testing"

	"plinth/api"
	"plinth/module"
	"plinth/reader"
)

func num(n int) api.Form             { return api.Form{Kind: api.Num, N: n} }
func word(s string) api.Form         { return api.Form{Kind: api.Word, Text: s} }
func list(kids ...api.Form) api.Form { return api.Form{Kind: api.List, Kids: kids} }

// forms reads a text of forms.
func forms(s string) []api.Form {
	l, err := reader.Read(s)
	if err != api.OK {
		panic("no forms: " + s)
	}
	return l
}

// form reads a text that must be one form.
func form(s string) api.Form {
	l := forms(s)
	if len(l) != 1 {
		panic("no form: " + s)
	}
	return l[0]
}

// written are forms as a text, with blanks between.
func written(l []api.Form) string {
	return strings.TrimSuffix(strings.ReplaceAll(reader.WriteAll(l), "\n", " "), " ")
}

// failed is the text for an error.
func failed(err api.Errno) string {
	return "error " + strconv.Itoa(int(err))
}

// told are forms or, where there is an error, its number.
func told(l []api.Form, err api.Errno) string {
	if err != api.OK {
		return failed(err)
	}
	return written(l)
}

// named are names or, where there is an error, its number.
func named(names []string, err api.Errno) string {
	if err != api.OK {
		return failed(err)
	}
	return strings.Join(names, " ")
}

// meant is a name or, where there is an error, its number.
func meant(name string, err api.Errno) string {
	if err != api.OK {
		return failed(err)
	}
	return name
}

// refusals asks all functions about modules that Check, and so each of them, must
// not let, or, with OK, Check alone.
func refusals(t *testing.T, what string, l []api.Form, want api.Errno) {
	t.Helper()
	if err := module.Check(l); err != want {
		t.Errorf("Check %s: error %d, not %d", what, err, want)
	}
	if want == api.OK {
		return
	}
	if names, err := module.Order(l); err != want || len(names) > 0 {
		t.Errorf("Order %s: %v, error %d", what, names, err)
	}
	if decls, err := module.Flatten(l); err != want || len(decls) > 0 {
		t.Errorf("Flatten %s: %s, error %d", what, written(decls), err)
	}
	for _, name := range []string{"A", "B", "nowhere"} {
		if decls, err := module.Full(l, name); err != want || len(decls) > 0 {
			t.Errorf("Full %s: %s, error %d", what, written(decls), err)
		}
		if names, err := module.Declares(l, name); err != want || len(names) > 0 {
			t.Errorf("Declares %s: %v, error %d", what, names, err)
		}
		if by, err := module.Means(l, name, "f"); err != want || by != "" {
			t.Errorf("Means %s: %s, error %d", what, by, err)
		}
	}
}

// identical compares all fields of forms, the unused ones too.
func identical(a, b api.Form) bool {
	return a.Kind == b.Kind && a.N == b.N && a.Text == b.Text && slices.EqualFunc(a.Kids, b.Kids, identical)
}

// clone is a form that shares no Kids with f.
func clone(f api.Form) api.Form {
	kids := make([]api.Form, len(f.Kids))
	for i, kid := range f.Kids {
		kids[i] = clone(kid)
	}
	f.Kids = kids
	return f
}

// cloned are forms that share no Kids with those of l.
func cloned(l []api.Form) []api.Form {
	var c []api.Form
	for _, f := range l {
		c = append(c, clone(f))
	}
	return c
}

// nest puts f into n lists with a head, one in the other.
func nest(n int, head string, f api.Form) api.Form {
	for range n {
		f = list(word(head), f)
	}
	return f
}

// repeat is a list of a head and n times f.
func repeat(head string, n int, f api.Form) api.Form {
	kids := []api.Form{word(head)}
	for range n {
		kids = append(kids, f)
	}
	return list(kids...)
}

// noForms are forms that are not valid.
func noForms() map[string]api.Form {
	a := word("A")
	return map[string]api.Form{
		"no kind":                 {Kind: 4},
		"a kind below":            {Kind: -1, Text: "a"},
		"a word with Kids":        {Kind: api.Word, Text: "A", Kids: []api.Form{a}},
		"an empty word":           word(""),
		"a long word":             word(strings.Repeat("a", api.MaxName+1)),
		"a list with a number":    {Kind: api.List, N: 1, Kids: []api.Form{word("module"), a}},
		"a module with a text":    {Kind: api.List, Text: "a", Kids: []api.Form{word("module"), a}},
		"a bad word within":       list(word("module"), a, word("")),
		"a bad number in a decl":  list(word("module"), a, list(word("function"), word("f"), list(), word("int"), num(api.MaxInt+1))),
		"a module too deep":       list(word("module"), a, list(word("function"), word("f"), list(), word("int"), nest(api.MaxDeep-2, "neg", word("x")))),
		"much too deep":           nest(5000, "module", a),
		"a module too large":      repeat("module", api.MaxForm, a),
		"a large list of no head": list(slices.Repeat([]api.Form{list()}, api.MaxForm)...),
	}
}

// dice gives numbers that look like random ones, the same in each run.
type dice uint64

func (d *dice) below(n int) int {
	*d = *d*6364136223846793005 + 1442695040888963407
	return int(uint64(*d)>>33) % n
}
