package kind_test

import (
	"slices"
	"strings"
	"testing"

	"plinth/api"
	"plinth/kind"
	"plinth/reader"
)

func word(s string) api.Form         { return api.Form{Kind: api.Word, Text: s} }
func list(kids ...api.Form) api.Form { return api.Form{Kind: api.List, Kids: kids} }

// form reads a text that must be one form.
func form(s string) api.Form {
	f, err := reader.One(s)
	if err != api.OK {
		panic("no form: " + s)
	}
	return f
}

// forms reads a text that must be forms.
func forms(s string) []api.Form {
	l, err := reader.Read(s)
	if err != api.OK {
		panic("no forms: " + s)
	}
	return l
}

// pairs reads a substitution: names, and the type of each one behind it.
func pairs(s string) []kind.Pair {
	var by []kind.Pair
	l := forms(s)
	for i := 0; i+1 < len(l); i += 2 {
		by = append(by, kind.Pair{Name: l[i].Text, To: l[i+1]})
	}
	return by
}

// told is a substitution as a text that pairs reads.
func told(by []kind.Pair) string {
	var out []string
	for _, pair := range by {
		out = append(out, pair.Name, reader.Write(pair.To))
	}
	return strings.Join(out, " ")
}

// The Kinds of rows.
const (
	data = 1 + iota
	codata
	class
	trait
	subset
	variable
)

// table tells of names of all Kinds, with and without Eq and New.
func table() []kind.Row {
	return []kind.Row{
		{Name: "D", Kind: data, Eq: true, New: true},
		{Name: "Dn", Kind: data, New: true},
		{Name: "De", Kind: data, Eq: true},
		{Name: "L", Kind: data, N: 1, Eq: true, New: true},
		{Name: "Ln", Kind: data, N: 1, New: true},
		{Name: "P", Kind: data, N: 2, Eq: true},
		{Name: "Q", Kind: data, N: 4, Eq: true, New: true},
		{Name: "O", Kind: codata, Eq: true},
		{Name: "S", Kind: codata, N: 1, Eq: true, New: true},
		{Name: "C", Kind: class},
		{Name: "K", Kind: class, Eq: true, New: true},
		{Name: "R", Kind: trait},
		{Name: "T", Kind: trait, Eq: true, New: true},
		{Name: "nat", Kind: subset, Eq: true, New: true},
		{Name: "odd", Kind: subset},
		{Name: "a", Kind: variable},
		{Name: "b", Kind: variable, Eq: true, New: true},
		{Name: "c", Kind: variable, New: true},
		{Name: "e", Kind: variable, Eq: true},
		{Name: "+", Kind: data, Eq: true, New: true},
	}
}

// clone is a form that shares no Kids with f.
func clone(f api.Form) api.Form {
	if f.Kids == nil {
		return f
	}
	kids := make([]api.Form, len(f.Kids))
	for i, kid := range f.Kids {
		kids[i] = clone(kid)
	}
	f.Kids = kids
	return f
}

// identical compares all fields of forms, the unused ones too.
func identical(a, b api.Form) bool {
	return a.Kind == b.Kind && a.N == b.N && a.Text == b.Text && slices.EqualFunc(a.Kids, b.Kids, identical)
}

// nest puts f into n lists with a head, one in the other.
func nest(n int, head string, f api.Form) api.Form {
	for range n {
		f = list(word(head), f)
	}
	return f
}

// wide is a fun of n parts with f as each of its arguments, which has one part.
func wide(n int, f api.Form) api.Form {
	arguments := list()
	for range n - 4 { // itself, its head, the list of its arguments, its result
		arguments.Kids = append(arguments.Kids, f)
	}
	return list(word("fun"), arguments, word("int"))
}

// hostile are forms that are not valid, and some that are no types.
func hostile() map[string]api.Form {
	a := word("a")
	return map[string]api.Form{
		"an empty word":        word(""),
		"a word of digits":     word("12"),
		"a word with a blank":  word("a b"),
		"a word too long":      word(strings.Repeat("a", api.MaxName+1)),
		"a word with Kids":     {Kind: api.Word, Text: "a", Kids: []api.Form{a}},
		"a word with N":        {Kind: api.Word, Text: "a", N: 1},
		"a number too great":   {Kind: api.Num, N: api.MaxInt + 1},
		"a number with a name": {Kind: api.Num, Text: "a"},
		"a text with 9":        {Kind: api.Text, Text: "\t"},
		"a text with Kids":     {Kind: api.Text, Text: "a", Kids: []api.Form{a}},
		"a list with N":        {Kind: api.List, N: 1, Kids: []api.Form{word("seq"), a}},
		"a list with text":     {Kind: api.List, Text: "a", Kids: []api.Form{word("seq"), a}},
		"a list of no word":    list(word("seq"), word("")),
		"an empty head":        list(word(""), a),
		"a kind":               {Kind: 4, Text: "a", Kids: []api.Form{a}},
		"a kind below":         {Kind: -1, Text: "a"},
		"a kind within":        list(word("seq"), api.Form{Kind: 9}),
		"too deep":             nest(api.MaxDeep, "seq", a),
		"much too deep":        nest(5000, "seq", a),
		"too many parts":       wide(api.MaxForm+1, a),
	}
}

// noNames are words that no variable has as its name: reserved ones, and some
// that are not valid.
func noNames() []string {
	return []string{
		"int", "bool", "bits", "seq", "set", "bag", "map", "imap", "fun", "maybe",
		"", "12", "-0", "a b", "(a)", "\x7f", strings.Repeat("a", api.MaxName+1),
	}
}

// dice gives numbers that look like random ones, the same in each run.
type dice uint64

func (d *dice) below(n int) int {
	*d = *d*6364136223846793005 + 1442695040888963407
	return int(uint64(*d)>>33) % n
}

// pick is one of some words.
func (d *dice) pick(words string) string {
	l := strings.Fields(words)
	return l[d.below(len(l))]
}

// kind is a type of at most that depth, with words that stand alone, and names
// of data with one argument. Not all of what it gives is let by Check.
func (d *dice) kind(depth int, words, names string) api.Form {
	if depth <= 1 || d.below(4) == 0 {
		return word(d.pick(words))
	}
	next := func() api.Form { return d.kind(depth-1, words, names) }
	switch d.below(7) {
	case 0:
		return list(word(d.pick("map imap")), next(), next())
	case 1:
		arguments := list()
		for range d.below(4) {
			arguments.Kids = append(arguments.Kids, next())
		}
		return list(word("fun"), arguments, next())
	case 2:
		return list(word("bits"), api.Form{Kind: api.Num, N: 1 + d.below(2)})
	case 3:
		return list(word("maybe"), word(d.pick(words)))
	case 4:
		return list(word(d.pick(names)), next())
	}
	return list(word(d.pick("seq seq set bag")), next())
}

// by is a substitution of some of the words by such types.
func (d *dice) by(words, names string) []kind.Pair {
	var by []kind.Pair
	for range d.below(5) {
		by = append(by, kind.Pair{Name: d.pick(words), To: d.kind(1+d.below(3), words, names)})
	}
	return by
}

// same fails, unless two substitutions are the same.
func same(t *testing.T, what string, got, want []kind.Pair) {
	t.Helper()
	if !slices.EqualFunc(got, want, func(a, b kind.Pair) bool { return a.Name == b.Name && identical(a.To, b.To) }) {
		t.Errorf("%s: %q, want %q", what, told(got), told(want))
	}
}
