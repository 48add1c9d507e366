package kind_test

import (
	"slices"
	"testing"

	"plinth/api"
	"plinth/kind"
	"plinth/reader"
)

// P3.2: Names are all words but the reserved ones.
func TestNames(t *testing.T) {
	for _, c := range []struct {
		t    string
		want []string
	}{
		{"int", nil}, {"bool", nil}, {"3", nil}, {`"a"`, nil}, {"()", nil},
		{"a", []string{"a"}},
		{"(map b (seq a))", []string{"a", "b"}},
		{"(map a a)", []string{"a"}},
		{"(L (P int a))", []string{"L", "P", "a"}},
		{"(fun (b a) (maybe C))", []string{"C", "a", "b"}},
		{"(fun (seq a) (bits 3))", []string{"a"}},
		{"(fun () (imap int (bag (set D))))", []string{"D"}},
		{"(a a)", []string{"a"}},
		{"(z (y x) 3 () (w))", []string{"w", "x", "y", "z"}},
		{"((b) (a) \"c\")", []string{"a", "b"}},
		{"(Seq ints true result + if)", []string{"+", "Seq", "if", "ints", "result", "true"}},
		{"(a10 a9 a B)", []string{"B", "a", "a10", "a9"}},
		{"(int bool bits seq set bag map imap fun maybe)", nil},
	} {
		if got := kind.Names(form(c.t)); !slices.Equal(got, c.want) {
			t.Errorf("Names %s: %q, want %q", c.t, got, c.want)
		}
	}
}

// P3.2: Names takes any form, also one that is not valid.
func TestNamesNotValid(t *testing.T) {
	for _, c := range []struct {
		f    api.Form
		want []string
	}{
		{word(""), []string{""}},
		{list(word("a b"), word("12"), word("seq")), []string{"12", "a b"}},
		{api.Form{Kind: api.Word, Text: "a", Kids: []api.Form{word("b")}}, []string{"a"}},
		{api.Form{Kind: api.Text, Text: "a", Kids: []api.Form{word("b")}}, nil},
		{api.Form{Kind: 4, Text: "a", Kids: []api.Form{word("b")}}, nil},
		{api.Form{Kind: api.List, Text: "a", Kids: []api.Form{word("b")}}, []string{"b"}},
		{nest(5000, "L", word("a")), []string{"L", "a"}},
	} {
		if got := kind.Names(c.f); !slices.Equal(got, c.want) {
			t.Errorf("Names %q, want %q", got, c.want)
		}
	}
}

// P3.2: Apply replaces words that stand as types, at once.
func TestApply(t *testing.T) {
	for _, c := range []struct{ t, by, want string }{
		{"a", "", "a"},
		{"a", "a int", "int"},
		{"a", "b int", "a"},
		{"a", "a (seq a)", "(seq a)"},
		{"(map a b)", "a b b a", "(map b a)"},
		{"(map a b)", "a b b int", "(map b int)"},
		{"a", "a int a bool", "int"},
		{"(map a b)", "b D a int b bool", "(map int D)"},
		{"(seq (set (bag (imap a (maybe a)))))", "a int", "(seq (set (bag (imap int (maybe int)))))"},

		// Heads are left alone.
		{"(a a)", "a int", "(a int)"},
		{"(a (a a) a)", "a (b a)", "(a (a (b a)) (b a))"},
		{"(L (P a b))", "L x P y a int", "(L (P int b))"},

		// But the arguments of a fun have none.
		{"(fun (a b) a)", "a int b bool", "(fun (int bool) int)"},
		{"(fun (a) (fun (b a) c))", "a int b (seq a)", "(fun (int) (fun ((seq a) int) c))"},
		{"(fun ((a a) a) (a a))", "a int", "(fun ((a int) int) (a int))"},
		{"(fun ((fun (a) a) a) a)", "a int", "(fun ((fun (int) int) int) int)"},
		{"(fun () a)", "a int", "(fun () int)"},
		{"(seq (fun (a) b))", "a b b a", "(seq (fun (b) a))"},
		{"(L (a b))", "a int b bool", "(L (a bool))"},
		{"(fun (fun (a b) c) d)", "a int b bool c D d C", "(fun (fun (a bool) D) C)"},

		// Any form will do.
		{"3", "a int", "3"},
		{`"a"`, "a int", `"a"`},
		{"()", "a int", "()"},
		{"((a b) a b)", "a int b bool", "((a bool) int bool)"},
		{"(bits a)", "a 3", "(bits 3)"},
		{"(3 a (a))", "a int", "(3 int (a))"},
		{"(fun a b)", "a int b bool", "(fun int bool)"},
		{"(fun (a) (a a) (a a))", "a int", "(fun (int) (a int) (a int))"},

		// Reserved words are no variables.
		{"int", "int a", "int"},
		{"(map int b)", "int a b int", "(map int int)"},
		{"(map b int)", "b int int a", "(map int int)"},
		{"(seq bool)", "bool a", "(seq bool)"},
		{"(fun (int bool) int)", "int a bool b", "(fun (int bool) int)"},
		{"(seq seq)", "seq int", "(seq seq)"},
		{"(P bits seq set bag map imap fun maybe)", "bits a seq a set a bag a map a imap a fun a maybe a", "(P bits seq set bag map imap fun maybe)"},
		{"(fun (fun a) (maybe a))", "fun int maybe int a C", "(fun (fun C) (maybe C))"},
		{"(map ints Int)", "ints int Int bool", "(map int bool)"},
	} {
		if got := kind.Apply(form(c.t), pairs(c.by)); reader.Write(got) != c.want {
			t.Errorf("Apply %s by %s: %q, want %s", c.t, c.by, reader.Write(got), c.want)
		}
	}
}

// P3.2: what is no word, or a head, is left alone in forms that are not valid,
// and so is a word that is not valid: no variable has that name.
func TestApplyNotValid(t *testing.T) {
	by := pairs("a int")
	for name, f := range hostile() {
		got := kind.Apply(f, by)
		if f.Kind == api.Word && f.Text == "a" {
			f = word("int")
		}
		if f.Kind != api.List && !identical(got, f) {
			t.Errorf("Apply of %s: %v", name, got)
		}
	}
	if got := kind.Apply(list(word(""), word("a")), by); !identical(got, list(word(""), word("int"))) {
		t.Errorf("Apply of an empty head: %v", got)
	}
	for _, name := range noNames() {
		if got := kind.Apply(list(word("L"), word(name)), []kind.Pair{{Name: name, To: word("a")}}); !identical(got, list(word("L"), word(name))) {
			t.Errorf("Apply by a pair of %q: %v", name, got)
		}
	}
}

// P3.2: where variables may grow and shrink.
func TestVariance(t *testing.T) {
	for _, c := range []struct {
		t    string
		want int
	}{
		{"a", 1}, {"b", 0}, {"int", 0}, {"3", 0}, {`"a"`, 0}, {"()", 0},
		{"(seq a)", 1}, {"(set a)", 1}, {"(bag a)", 1}, {"(maybe a)", 1}, {"(L a)", 1}, {"(P b a)", 1}, {"(Q a b a b)", 1},
		{"(map a b)", 1}, {"(map b a)", 1}, {"(map a a)", 1}, {"(imap a b)", 1}, {"(imap b a)", 1},
		{"(fun (a) b)", -1}, {"(fun () a)", 1}, {"(fun (b) a)", 1}, {"(fun (a) a)", 2}, {"(fun (b a) b)", -1}, {"(fun (a a) b)", -1},
		{"(fun ((fun (a) b)) b)", 1}, {"(fun ((fun (b) a)) b)", -1}, {"(fun ((fun (a) b)) a)", 1}, {"(fun ((fun (a) a)) b)", 2},
		{"(fun ((fun ((fun (a) b)) b)) b)", -1}, {"(fun (b) (fun (a) b))", -1}, {"(fun (a) (fun (a) b))", -1}, {"(fun (b) (fun (b) a))", 1},
		{"(fun ((seq a)) (map b b))", -1}, {"(fun ((map a a)) b)", -1}, {"(fun ((L (set a))) b)", -1},
		{"(map (fun (a) b) a)", 2}, {"(map (fun (a) b) b)", -1}, {"(P (fun (a) b) (fun () a))", 2},
		// Heads do not count.
		{"(a b)", 0}, {"(a a)", 1}, {"(a (a (a b)))", 0}, {"(fun ((a b)) b)", 0}, {"(fun ((a a)) b)", -1}, {"(fun (b (a b)) (a b))", 0},
		// Any form will do.
		{"((a) a)", 1}, {"(fun (a))", -1}, {"(fun b (a a))", 1}, {"(fun () b (fun (a) b))", -1}, {"(3 a)", 1},
	} {
		if got := kind.Variance(form(c.t), "a"); got != c.want {
			t.Errorf("Variance %s: %d, want %d", c.t, got, c.want)
		}
	}
	if got := kind.Variance(form("(seq (a b))"), ""); got != 0 {
		t.Errorf("Variance of no name: %d", got)
	}
	if got := kind.Variance(form("(fun (ints) int)"), "ints"); got != -1 {
		t.Errorf("Variance of a name that begins as a reserved word: %d", got)
	}
	for name, f := range hostile() {
		if got := kind.Variance(f, "nope"); got != 0 {
			t.Errorf("Variance in %s: %d", name, got)
		}
	}
}

// P3.2: what no variable has as its name stands nowhere as one.
func TestVarianceOfNoVariable(t *testing.T) {
	for _, name := range noNames() {
		w := word(name)
		for _, f := range []api.Form{
			w, list(word("seq"), w), list(word("L"), w), list(w, w), list(word("L"), w, list(word("a"), w)),
			list(word("fun"), list(w), word("a")), list(word("fun"), list(word("a")), w), list(word("fun"), list(w), w),
		} {
			if got := kind.Variance(f, name); got != 0 {
				t.Errorf("Variance of %q in %v: %d", name, f, got)
			}
		}
	}
}

// P3.2: Compose is first, and then the other one.
func TestCompose(t *testing.T) {
	for _, c := range []struct{ first, then, want string }{
		{"", "", ""},
		{"a int", "", "a int"},
		{"", "a int", "a int"},
		{"a (seq b)", "b int", "a (seq int) b int"},
		{"b (seq c)", "a int", "a int b (seq c)"},
		{"a b", "b c c int", "a c b c c int"},
		{"c a b a a a", "a int", "a int b int c int"},
		// Names that first has.
		{"a int", "a bool", "a int"},
		{"a b", "a bool b int", "a int b int"},
		// Heads.
		{"a (b b)", "b int", "a (b int) b int"},
		{"a (fun (b b) (b b))", "b int", "a (fun (int int) (b int)) b int"},
		// Pairs that become themselves go, with all that then has of the name.
		{"a b", "b a", "b a"},
		{"a b", "b a a int", "b a"},
		{"a a", "", ""},
		{"", "a a b int", "b int"},
		{"a a", "a int", "a int"},
		{"a (seq a)", "", "a (seq a)"},
		{`a "a"`, `b "b"`, `a "a" b "b"`},
		{"a (a a)", "a int", "a (a int)"},
		// Of doubles the first one counts.
		{"a int a bool", "", "a int"},
		{"", "b int b bool", "b int"},
		{"a b a c", "b int c bool b bool", "a int b int c bool"},
		{"a a a int", "", ""},
		{"a a a int", "a bool", "a bool"},
		{"a b a int", "b a", "b a"},
		{"", "b b b int", ""},
		// Names are ascending by their bytes.
		{"b int a10 int", "a9 int B int a int", "B int a int a10 int a9 int b int"},
		// Reserved words are no variables.
		{"int a", "", ""},
		{"", "int a", ""},
		{"int a", "int b", ""},
		{"b int", "int a", "b int"},
		{"b (map int c)", "int a c bool", "b (map int bool) c bool"},
		{"int b bool a c int", "b bool a int int c", "a int b bool c int"},
		{"int a int b a int", "a bool", "a int"},
		{"seq a fun int b (fun (fun) seq)", "seq int fun b", "b (fun (fun) seq)"},
	} {
		if got := kind.Compose(pairs(c.first), pairs(c.then)); told(got) != c.want {
			t.Errorf("Compose %q, %q: %q, want %q", c.first, c.then, told(got), c.want)
		}
	}
}

// P3.2: no pair of Compose has a name that no variable has.
func TestComposeNotValid(t *testing.T) {
	for _, name := range noNames() {
		odd := []kind.Pair{{Name: name, To: word("a")}, {Name: "b", To: word("int")}}
		same(t, "Compose of "+name+" and none", kind.Compose(odd, nil), odd[1:])
		same(t, "Compose of none and "+name, kind.Compose(nil, odd), odd[1:])
		same(t, "Compose of both and "+name, kind.Compose(odd, odd), odd[1:])
	}
}

// P3.2: Instance tells the substitution by which a type becomes another one.
func TestInstance(t *testing.T) {
	for _, c := range []struct {
		of, t, vars, want string
		ok                bool
	}{
		{"a", "int", "a", "a int", true},
		{"int", "int", "a", "", true},
		{"a", "a", "", "", true},
		{"a", "int", "", "", false},
		{"a", "int", "b", "", false},
		{"int", "bool", "a", "", false},
		{"(map a (seq b))", "(map int (seq bool))", "b a", "a int b bool", true},
		{"(map b (seq a))", "(map int (seq bool))", "b a c", "a bool b int", true},
		{"(seq a)", "(seq (map int (seq D)))", "a", "a (map int (seq D))", true},
		{"(seq a)", "(set int)", "a", "", false},
		{"(seq a)", "int", "a", "", false},
		{"(seq a)", "(seq int int)", "a", "", false},
		{"(L a b)", "(L int)", "a b", "", false},
		{"(fun (a) b)", "(fun (int int) b)", "a b", "", false},
		{"(bits 3)", "(bits 3)", "a", "", true},
		{"(bits 3)", "(bits 4)", "a", "", false},
		// A variable that is met again.
		{"(map a a)", "(map int int)", "a", "a int", true},
		{"(map a a)", "(map int bool)", "a", "", false},
		{"(fun (a (seq a)) a)", "(fun ((seq b) (seq (seq b))) (seq b))", "a", "a (seq b)", true},
		{"(fun (a (seq a)) a)", "(fun ((seq b) (seq b)) (seq b))", "a", "", false},
		// The other type is as it is.
		{"a", "(seq a)", "a", "a (seq a)", true},
		{"(map a b)", "(map b a)", "a b", "a b b a", true},
		{"(map a b)", "(map b b)", "a b", "a b b b", true},
		{"(seq a)", "(seq a)", "a", "a a", true},
		{"int", "a", "a", "", false},
		{"(seq int)", "(seq a)", "a", "", false},
		{"(seq int)", "a", "a", "", false},
		// Heads, and the arguments of a fun.
		{"(a a)", "(a int)", "a", "a int", true},
		{"(a a)", "(b int)", "a", "", false},
		{"(a int)", "(seq int)", "a", "", false},
		{"(a int)", "((seq b) int)", "a", "", false},
		{"(fun (a b) a)", "(fun (int bool) int)", "a b", "a int b bool", true},
		{"(fun (a b) a)", "(fun (int bool) bool)", "a b", "", false},
		{"(fun (a) (a b))", "(fun ((seq int)) (a int))", "a b", "a (seq int) b int", true},
		{"(fun () a)", "(fun () (fun () int))", "a", "a (fun () int)", true},
		// A variable that is named twice is one.
		{"(map a a)", "(map int int)", "a a", "a int", true},
		// Reserved words are no variables.
		{"int", "bool", "int", "", false},
		{"int", "(seq int)", "int bool", "", false},
		{"int", "int", "int", "", true},
		{"(seq bool)", "(seq a)", "bool", "", false},
		{"(seq bool)", "(seq bool)", "bool", "", true},
		{"(map int b)", "(map a int)", "int b", "", false},
		{"(map int b)", "(map int a)", "int b", "b a", true},
		{"(fun (int a) int)", "(fun (int bool) int)", "int a int", "a bool", true},
		{"(fun (int a) int)", "(fun (a int) a)", "int a", "", false},
		{"(L seq)", "(L int)", "seq L", "", false},
		{"(fun (fun a) b)", "(fun (fun maybe) int)", "fun a maybe b", "a maybe b int", true},
		{"(map ints Int)", "(map int bool)", "ints int Int", "Int bool ints int", true},
	} {
		got, ok := kind.Instance(form(c.of), form(c.t), names(c.vars))
		if ok != c.ok || told(got) != c.want {
			t.Errorf("Instance %s of %s, vars %s: %q, %v, want %q, %v", c.t, c.of, c.vars, told(got), ok, c.want, c.ok)
		}
		if !ok && got != nil {
			t.Errorf("Instance %s of %s: false, and pairs", c.t, c.of)
		}
	}
}

// names are the words of a text.
func names(s string) []string {
	var l []string
	for _, f := range forms(s) {
		l = append(l, f.Text)
	}
	return l
}

// P3.2: what no variable has as its name becomes itself alone.
func TestInstanceOfNoVariable(t *testing.T) {
	for _, name := range noNames() {
		w, a := word(name), word("a")
		for _, of := range []api.Form{w, list(word("seq"), w), list(word("fun"), list(w), word("b"))} {
			if got, ok := kind.Instance(of, of, []string{name}); !ok || got != nil {
				t.Errorf("Instance of %v by itself, vars %q: %q, %v", of, name, told(got), ok)
			}
		}
		if got, ok := kind.Instance(w, a, []string{name}); ok || got != nil {
			t.Errorf("Instance of %q by a: %q", name, told(got))
		}
		if got, ok := kind.Instance(list(word("map"), a, w), list(word("map"), w, a), []string{name, "a"}); ok || got != nil {
			t.Errorf("Instance of a and %q by these turned round: %q", name, told(got))
		}
	}
}

// R1: forms that are not valid, and vars that are no names, do no harm.
func TestInstanceNotValid(t *testing.T) {
	vars := []string{"a", "", "12", "int", "a"}
	for name, f := range hostile() {
		kind.Instance(f, word("a"), vars)
		if got, ok := kind.Instance(word("a"), f, vars); !ok || len(got) != 1 || !identical(got[0].To, f) {
			t.Errorf("Instance of a by %s: %v", name, got)
		}
		if got, ok := kind.Instance(f, clone(f), nil); !ok || got != nil {
			t.Errorf("%s is no instance of itself", name)
		}
		if got, ok := kind.Instance(list(word("seq"), f), word("int"), vars); ok || got != nil {
			t.Errorf("int is an instance of a list of %s: %v", name, got)
		}
	}
}
