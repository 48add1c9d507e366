package binder_test

import (
	"slices"
	"strconv"
	"strings"

	"plinth/api"
	"plinth/binder"
	"plinth/reader"
)

func num(n int) api.Form             { return api.Form{Kind: api.Num, N: n} }
func word(s string) api.Form         { return api.Form{Kind: api.Word, Text: s} }
func list(kids ...api.Form) api.Form { return api.Form{Kind: api.List, Kids: kids} }

// form reads a text that must be one form.
func form(s string) api.Form {
	f, err := reader.One(s)
	if err != api.OK {
		panic("no form: " + s)
	}
	return f
}

// pairs reads names, and what replaces each one behind it.
func pairs(s string) []binder.Pair {
	l, err := reader.Read(s)
	if err != api.OK || len(l)%2 != 0 {
		panic("no pairs: " + s)
	}
	var by []binder.Pair
	for i := 0; i < len(l); i += 2 {
		by = append(by, binder.Pair{Name: l[i].Text, To: l[i+1]})
	}
	return by
}

// written are pairs as a text that pairs reads.
func written(by []binder.Pair) string {
	var out []string
	for _, p := range by {
		out = append(out, p.Name, reader.Write(p.To))
	}
	return strings.Join(out, " ")
}

// told is a form or, where there is an error, its number.
func told(f api.Form, err api.Errno) string {
	if err != api.OK {
		return "error " + strconv.Itoa(int(err))
	}
	return reader.Write(f)
}

// named are names or, where there is an error, its number.
func named(names []string, err api.Errno) string {
	if err != api.OK {
		return "error " + strconv.Itoa(int(err))
	}
	return strings.Join(names, " ")
}

// identical compares all fields of forms, the unused ones too.
func identical(a, b api.Form) bool {
	return a.Kind == b.Kind && a.N == b.N && a.Text == b.Text && slices.EqualFunc(a.Kids, b.Kids, identical)
}

// clone is a form that shares no Kids with f.
func clone(f api.Form) api.Form {
	kids := make([]api.Form, len(f.Kids))
	for i, kid := range f.Kids {
		kids[i] = clone(kid)
	}
	f.Kids = kids
	return f
}

// nest puts f into n expressions with a head, one in the other.
func nest(n int, head string, f api.Form) api.Form {
	for range n {
		f = list(word(head), f)
	}
	return f
}

// repeat is a list of a head and n times f.
func repeat(head string, n int, f api.Form) api.Form {
	kids := []api.Form{word(head)}
	for range n {
		kids = append(kids, f)
	}
	return list(kids...)
}

// neither are forms that are no expressions and no lists of statements.
func neither() map[string]api.Form {
	a, leave := word("a"), list(word("leave"))
	return map[string]api.Form{
		"a text":                     {Kind: api.Text, Text: "a"},
		"a reserved word":            word("if"),
		"a type":                     form("(fun (int) int)"),
		"a declaration":              form("(function f ((x int)) int x)"),
		"a statement":                form("(call (x) f y)"),
		"a statement alone":          leave,
		"an unknown head":            form("(unknown x)"),
		"too many Kids":              form("(neg x y)"),
		"one that binds twice":       form("(fn ((x int) (x int)) x)"),
		"a binder that is no name":   form("(let (x' 1) x')"),
		"what binds result":          form("(let (result 1) result)"),
		"expressions":                form("(1 2)"),
		"statements and expressions": form("((leave) x)"),
		"expressions and statements": form("((+ x y) (leave))"),
		"a list in a list":           form("(((leave)))"),
		"an empty list in a list":    form("(())"),
		"statements in a by":         form("(by (leave))"),
		"a bad statement":            form("((leave) (set x))"),
		"what assigns twice":         form("((call (x x) f))"),
		"a var that is no name":      form("((var result int))"),
		"no form":                    {Kind: 4},
		"a kind below":               {Kind: -1, Text: "a"},
		"a word with Kids":           {Kind: api.Word, Text: "a", Kids: []api.Form{a}},
		"a number with a name":       {Kind: api.Num, Text: "a"},
		"an empty word":              word(""),
		"a word that is too long":    word(strings.Repeat("a", api.MaxName+1)),
		"a list with a number":       {Kind: api.List, N: 1, Kids: []api.Form{leave}},
		"an empty list with a text":  {Kind: api.List, Text: "a"},
		"a bad word within":          list(list(word("assume"), word(""))),
		"too deep":                   nest(api.MaxDeep, "neg", a),
		"much too deep":              nest(5000, "neg", a),
		"statements too deep":        list(nest(api.MaxDeep-1, "ghost", leave)),
		"too many parts":             repeat("and", api.MaxForm-1, a),
		"too many statements":        list(repeat("ghost", api.MaxForm/2, leave).Kids[1:]...),
	}
}

// dice gives numbers that look like random ones, the same in each run.
type dice uint64

func (d *dice) below(n int) int {
	*d = *d*6364136223846793005 + 1442695040888963407
	return int(uint64(*d)>>33) % n
}
