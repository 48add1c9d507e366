package kind_test

import (
	"slices"
	"strconv"
	"strings"
	"testing"

	"plinth/api"
	"plinth/kind"
	"plinth/reader"
)

// unified are types, variables, and what Unify says of them.
var unified = []struct {
	a, b, vars, want string
	err              api.Errno
}{
	{"int", "int", "", "", api.OK},
	{"int", "bool", "", "", api.ErrType},
	{"a", "a", "", "", api.OK},
	{"a", "b", "", "", api.ErrType},
	{"a", "int", "", "", api.ErrType},
	{"a", "int", "a", "a int", api.OK},
	{"int", "a", "a", "a int", api.OK},
	{"a", "(seq b)", "a", "a (seq b)", api.OK},
	{"(seq b)", "a", "a b", "a (seq b)", api.OK},
	{"(seq a)", "(seq int)", "a b", "a int", api.OK},
	{"(seq int)", "(set int)", "a", "", api.ErrType},
	{"(seq int)", "int", "a", "", api.ErrType},
	{"(bits 3)", "(bits 3)", "a", "", api.OK},
	{"(bits 3)", "(bits 4)", "a", "", api.ErrType},
	{"3", "3", "", "", api.OK},
	{"3", `"3"`, "", "", api.ErrType},
	{`"a"`, `"a"`, "", "", api.OK},
	{`"a"`, `"b"`, "a b", "", api.ErrType},
	{`"a"`, "a", "", "", api.ErrType},
	{`"a"`, "int", "a", "", api.ErrType},
	{"()", "()", "", "", api.OK},
	{"(map a b)", "(map int (seq a))", "a b", "a int b (seq int)", api.OK},
	{"(map b a)", "(map (seq a) int)", "a b", "a int b (seq int)", api.OK},
	{"(map a (seq b))", "(map int a)", "a b", "", api.ErrType},
	{"(maybe a)", "(maybe C)", "a", "a C", api.OK},

	// A variable with a variable: the left one gets the right one.
	{"a", "a", "a", "", api.OK},
	{"a", "b", "a b", "a b", api.OK},
	{"b", "a", "a b", "b a", api.OK},
	{"a", "b", "b", "b a", api.OK},
	{"a", "b", "a", "a b", api.OK},
	{"(map a b)", "(map b a)", "a b", "a b", api.OK},
	{"(map b a)", "(map a b)", "a b", "b a", api.OK},
	{"(map a a)", "(map b c)", "a b c", "a c b c", api.OK},
	{"(map b c)", "(map a a)", "a b c", "b a c a", api.OK},
	{"(map a b)", "(map c c)", "a b c", "a c b c", api.OK},
	{"(map a (map b c))", "(map b (map c d))", "a b c d", "a d b d c d", api.OK},
	{"(map a (map b a))", "(map b (map c d))", "a b c d", "a d b d c d", api.OK},
	{"(map a (map b int))", "(map b (map c c))", "a b c d", "a int b int c int", api.OK},
	{"(map a (map int a))", "(map b (map b bool))", "a b", "", api.ErrType},

	// Heads are words, also where they are variables.
	{"(a a)", "(a int)", "a", "a int", api.OK},
	{"(a a)", "(b int)", "a b", "", api.ErrType},
	{"(a int)", "(seq int)", "a", "", api.ErrType},
	{"a", "(a int)", "a", "a (a int)", api.OK},
	{"(a b)", "b", "a b", "b (a b)", api.ErrLoop},
	{"(map a b)", "(map (b int) (a int))", "a b", "a (b int) b (a int)", api.OK},
	{"(a int)", "((seq b) int)", "a b", "", api.ErrType},
	{"((seq a) b)", "((seq int) bool)", "a b", "a int b bool", api.OK},
	{"(L a)", "(L int)", "L a", "a int", api.OK},

	// The arguments of a fun have none.
	{"(fun (a b) a)", "(fun (int bool) int)", "a b", "a int b bool", api.OK},
	{"(fun (a) b)", "(fun ((seq b)) int)", "a b", "a (seq int) b int", api.OK},
	{"(fun (a (a b)) int)", "(fun (int (a bool)) int)", "a b", "a int b bool", api.OK},
	{"(fun ((fun (a) b)) a)", "(fun ((fun (int) c)) c)", "a b c", "a int b int c int", api.OK},
	{"(fun (a a) a)", "(fun (b int) c)", "a b c", "a int b int c int", api.OK},
	{"a", "(fun (a) int)", "a", "", api.ErrLoop},
	{"a", "(fun ((a int)) int)", "a", "a (fun ((a int)) int)", api.OK},
	{"(fun () a)", "(fun () int)", "a", "a int", api.OK},
	{"(fun (a) int)", "(fun (int) bool)", "a", "", api.ErrType},

	// Lists of unlike lengths.
	{"(fun (a) int)", "(fun (int int) int)", "a", "", api.ErrType},
	{"(fun () int)", "(fun (a) int)", "a", "", api.ErrType},
	{"(L a)", "(L int int)", "a", "", api.ErrType},
	{"(L a int)", "(L (seq b))", "a", "", api.ErrType},
	{"()", "(a)", "a", "", api.ErrType},
	{"(a)", "()", "a", "", api.ErrType},

	// They are met behind the Kids that both have.
	{"(L a int)", "(L (seq a))", "a", "", api.ErrLoop},
	{"(L (seq a))", "(L a int)", "a", "", api.ErrLoop},
	{"(L a int)", "(L (seq a) int int)", "a", "", api.ErrLoop},
	{"(L int a int)", "(L int (seq a))", "a", "", api.ErrLoop},
	{"(L a b)", "(L int (seq b) int)", "a b", "", api.ErrLoop},
	{"(L a (seq a) b)", "(L b a)", "a b", "", api.ErrLoop},
	{"(L int a int)", "(L bool (seq a))", "a", "", api.ErrType},
	{"(L int a)", "(L int)", "a", "", api.ErrType},
	{"(P a int)", "(L (seq a))", "a", "", api.ErrType},
	{"(P a int)", "((seq a))", "a", "", api.ErrType},
	{"(fun (a) int)", "(fun ((seq a) int) int)", "a", "", api.ErrLoop},
	{"(fun (a int) b)", "(fun (int) (seq b))", "a b", "", api.ErrType},
	{"(fun (a) b)", "(fun ((seq b) int) (seq a))", "a b", "", api.ErrType},
	{"(fun (c) 0)", "(fun ((0 c) 0) b)", "c", "", api.ErrLoop},
	{"(map (L a int) b)", "(map (L (seq int)) (seq b))", "a b", "", api.ErrType},
	{"(map (L (L a int)) int)", "(map (L (L (seq a)) int) bool)", "a", "", api.ErrLoop},
	{"(map b (map b a))", "(map (L a int) (map (L (seq a)) int))", "a b", "", api.ErrLoop},
	{"(3 a)", "(3 (4 a) 5)", "a", "", api.ErrLoop},

	// Loops.
	{"a", "(seq a)", "a", "", api.ErrLoop},
	{"(seq a)", "a", "a", "", api.ErrLoop},
	{"a", "(seq a)", "b", "", api.ErrType},
	{"a", "(map int (fun (b (L a)) c))", "a b c", "", api.ErrLoop},
	{"(map a b)", "(map (seq b) (seq a))", "a b", "", api.ErrLoop},
	{"(map a (map b c))", "(map (seq b) (map (seq c) (seq a)))", "a b c", "", api.ErrLoop},
	{"(map a a)", "(map b (seq b))", "a b", "", api.ErrLoop},
	{"(map a (map b a))", "(map (seq b) (map b b))", "a b", "", api.ErrLoop},
	{"(map (seq a) a)", "(map b b)", "a b", "", api.ErrLoop},

	// The first of them that is met.
	{"(map a int)", "(map (seq a) bool)", "a", "", api.ErrLoop},
	{"(map int a)", "(map bool (seq a))", "a", "", api.ErrType},
	{"(map (seq int) a)", "(map (seq bool) (seq a))", "a", "", api.ErrType},
	{"(map (seq a) int)", "(map (seq (seq a)) bool)", "a", "", api.ErrLoop},
	{"(P a int)", "(L (seq a) bool)", "a", "", api.ErrType},
	{"(fun (a) int)", "(fun ((seq a)) bool)", "a", "", api.ErrLoop},
	{"(map a (map a a))", "(map (seq b) (map (seq int) (seq bool)))", "a b", "", api.ErrType},
	{"(map a (map a b))", "(map (seq b) (map (seq (seq b)) int))", "a b", "", api.ErrLoop},

	// Variables that stand nowhere do not matter.
	{"int", "int", "a b", "", api.OK},
	{"(seq a)", "(seq int)", "z a y", "a int", api.OK},
	{"a", "int", "a10 a9 a", "a int", api.OK},
	{"(P (P a9 a10) (P a B))", "(P (P int int) (P int int))", "a10 a9 a B", "B int a int a10 int a9 int", api.OK},

	// Any valid form will do.
	{"(bits a)", "(bits 3)", "a", "a 3", api.OK},
	{"((a) (b))", "((a) (b))", "a b", "", api.OK},
	{"(3 a)", "(3 int)", "a", "a int", api.OK},
	{"(fun a int)", "(fun (b) int)", "a b", "a (b)", api.OK},
	{"(P (fun a int) b)", "(P (fun (b) int) bool)", "a b", "a (bool) b bool", api.OK},
	{"(P (fun a int) b)", "(P (fun (b) int) (fun a int))", "a b", "", api.ErrLoop},
	{"(P a (fun a int))", "(P (b c) (fun (b c) int))", "a b", "a (b c)", api.OK},
}

// P3.2: what Unify says of types.
func TestUnify(t *testing.T) {
	for _, c := range unified {
		got, err := kind.Unify(form(c.a), form(c.b), names(c.vars))
		want := c.want
		if c.err != api.OK {
			want = ""
		}
		if err != c.err || told(got) != want {
			t.Errorf("Unify %s, %s, vars %s: %q, error %d, want %q, error %d", c.a, c.b, c.vars, told(got), err, want, c.err)
		}
		if err != api.OK && got != nil {
			t.Errorf("Unify %s, %s: pairs, and error %d", c.a, c.b, err)
		}
		all, allErr := kind.UnifyAll([]api.Form{form(c.a)}, []api.Form{form(c.b)}, names(c.vars))
		if allErr != err || told(all) != told(got) {
			t.Errorf("UnifyAll %s, %s, vars %s: %q, error %d", c.a, c.b, c.vars, told(all), allErr)
		}
	}
}

// P3.2: UnifyAll takes the types one behind the other.
func TestUnifyAll(t *testing.T) {
	for _, c := range []struct {
		a, b, vars, want string
		err              api.Errno
	}{
		{"", "", "", "", api.OK},
		{"", "", "a", "", api.OK},
		{"a b", "int (seq a)", "a b", "a int b (seq int)", api.OK},
		{"(seq b) a", "(seq a) int", "a b", "a int b int", api.OK},
		{"a a", "int bool", "a", "", api.ErrType},
		{"a b", "(seq b) (seq a)", "a b", "", api.ErrLoop},
		{"a int", "(seq a) bool", "a", "", api.ErrLoop},
		{"int a", "bool (seq a)", "a", "", api.ErrType},
		// The list is no type: its first one is no head.
		{"a int", "int int", "a", "a int", api.OK},
		{"fun (a b)", "fun (a int)", "a b", "b int", api.OK},
		{"fun (a b)", "fun (int int)", "a b", "", api.ErrType},
		// Unlike lengths.
		{"a", "", "a", "", api.ErrType},
		{"", "a", "a", "", api.ErrType},
		{"a", "int int", "a", "", api.ErrType},
		{"a int", "int", "a", "", api.ErrType},
		{"a int", "(seq b)", "a b", "", api.ErrType},
		// They are met behind the types that both have.
		{"a", "(seq a) int", "a", "", api.ErrLoop},
		{"a int", "(seq a)", "a", "", api.ErrLoop},
		{"b 0", "((0 b))", "b", "", api.ErrLoop},
		{"a b int", "(seq b) (seq a)", "a b", "", api.ErrLoop},
		{"int a", "bool (seq a) int", "a", "", api.ErrType},
		{"(L a int) b", "(L int) (seq b)", "a b", "", api.ErrType},
		{"(L a int)", "(L (seq a)) int", "a", "", api.ErrLoop},
		{"int", "int a (seq a)", "a", "", api.ErrType},
	} {
		got, err := kind.UnifyAll(forms(c.a), forms(c.b), names(c.vars))
		if err != c.err || told(got) != c.want || err != api.OK && got != nil {
			t.Errorf("UnifyAll %q, %q, vars %s: %q, error %d, want %q, error %d", c.a, c.b, c.vars, told(got), err, c.want, c.err)
		}
	}
}

// P3.2: forms that are not valid, and vars that are twice or no names, are
// ErrArg, whatever else is wrong.
func TestUnifyNotValid(t *testing.T) {
	a := word("a")
	ask := func(what string, l, r []api.Form, vars []string, want api.Errno) {
		t.Helper()
		if got, err := kind.UnifyAll(l, r, vars); err != want || err != api.OK && got != nil {
			t.Errorf("UnifyAll of %s: %q, error %d, want %d", what, told(got), err, want)
		}
		if len(l) == 1 && len(r) == 1 {
			if got, err := kind.Unify(l[0], r[0], vars); err != want || err != api.OK && got != nil {
				t.Errorf("Unify of %s: %q, error %d, want %d", what, told(got), err, want)
			}
		}
	}
	for what, f := range hostile() {
		ask(what, []api.Form{f}, []api.Form{a}, []string{"a"}, api.ErrArg)
		ask(what, []api.Form{a}, []api.Form{f}, []string{"a"}, api.ErrArg)
		ask(what, []api.Form{f}, []api.Form{f}, nil, api.ErrArg)
		ask(what, []api.Form{a, word("b"), f}, []api.Form{list(word("seq"), a), word("c"), a}, []string{"a"}, api.ErrArg)
		ask(what, []api.Form{a}, []api.Form{a, f}, []string{"a"}, api.ErrArg)
		ask(what, []api.Form{f}, nil, nil, api.ErrArg)
	}
	for vars, want := range map[string]api.Errno{
		"a": api.OK, "a,b,c": api.OK, "if": api.OK, "+": api.OK, "Int": api.OK, "result": api.OK,
		"a,a": api.ErrArg, "a,b,a": api.ErrArg, "b,b": api.ErrArg,
		"": api.ErrArg, "a,": api.ErrArg, "12": api.ErrArg, "-1": api.ErrArg, "a b": api.ErrArg, "(": api.ErrArg, "\x80": api.ErrArg,
		"int": api.ErrArg, "bool": api.ErrArg, "bits": api.ErrArg, "seq": api.ErrArg, "set": api.ErrArg, "bag": api.ErrArg,
		"map": api.ErrArg, "imap": api.ErrArg, "fun": api.ErrArg, "a,maybe": api.ErrArg,
		strings.Repeat("a", api.MaxName): api.OK, strings.Repeat("a", api.MaxName+1): api.ErrArg,
	} {
		l := strings.Split(vars, ",")
		ask("vars "+vars, []api.Form{word("int")}, []api.Form{word("int")}, l, want)
		if want == api.ErrArg {
			ask("vars "+vars, []api.Form{word("int")}, []api.Form{word("bool")}, l, want)
			ask("vars "+vars, []api.Form{a}, []api.Form{list(word("seq"), a)}, l, want)
			ask("vars "+vars, []api.Form{a}, nil, l, want)
		}
	}
}

// chain is a list of words x0, x1, .., xn.
func chain(x string, n int) []api.Form {
	var l []api.Form
	for i := range n + 1 {
		l = append(l, word(x+strconv.Itoa(i)))
	}
	return l
}

// texts are the texts of words.
func texts(l []api.Form) []string {
	var out []string
	for _, f := range l {
		out = append(out, f.Text)
	}
	return out
}

// double has `(P x x)` for each x of a list but the first one.
func double(l []api.Form) []api.Form {
	var out []api.Form
	for _, x := range l[1:] {
		out = append(out, list(word("P"), x, x))
	}
	return out
}

// P3.2: a type of the result that has too many parts is ErrLimit.
func TestUnifyParts(t *testing.T) {
	a, b := word("a"), word("b")
	fit := wide(api.MaxForm, b)
	for _, c := range []struct {
		to   api.Form
		b    api.Form
		want api.Errno
	}{
		{fit, word("int"), api.OK},
		{fit, list(word("seq"), word("int")), api.ErrLimit},
		{wide(api.MaxForm/2, b), list(word("seq"), word("int")), api.ErrLimit},
		{wide(api.MaxForm/3, b), list(word("seq"), word("int")), api.OK},
		{wide(100, b), wide(100, word("int")), api.OK},
		{wide(200, b), wide(200, word("int")), api.ErrLimit},
	} {
		for _, order := range [][]api.Form{{a, b}, {b, a}} {
			to := []api.Form{c.to, c.b}
			if order[0].Text == "b" {
				slices.Reverse(to)
			}
			got, err := kind.UnifyAll(order, to, []string{"a", "b"})
			if err != c.want || (err == api.OK) != (len(got) == 2) || err != api.OK && got != nil {
				t.Errorf("UnifyAll of a type of %d parts: %d pairs, error %d, want %d", reader.Size(c.to), len(got), err, c.want)
			}
		}
	}
}

// P3.2: a type of the result that is too deep is ErrLimit.
func TestUnifyDepth(t *testing.T) {
	xs := chain("x", 120)
	for _, n := range []int{1, 2, 50, 99, 100, 101, 120} {
		l, r := slices.Clone(xs[:n]), []api.Form{}
		for _, x := range xs[1 : n+1] {
			r = append(r, list(word("seq"), x))
		}
		want := api.OK
		if n >= api.MaxDeep {
			want = api.ErrLimit
		}
		for range 2 {
			got, err := kind.UnifyAll(l, r, texts(xs))
			if err != want {
				t.Fatalf("%d types deep: error %d, want %d", n, err, want)
			}
			for _, pair := range got {
				i, _ := strconv.Atoi(pair.Name[1:])
				if !identical(pair.To, nest(n-i, "seq", xs[n])) {
					t.Fatalf("%d types deep: %s is %s", n, pair.Name, reader.Write(pair.To))
				}
			}
			slices.Reverse(l)
			slices.Reverse(r)
		}
	}
}

// P3.2: types that double are told by what is met first, and end in ErrLimit.
// R1: however large they would be, this takes no time.
func TestUnifyDoubles(t *testing.T) {
	for _, n := range []int{1, 5, 12, 13, 60, 300, 1500} {
		xs, ys := chain("x", n), chain("y", n)
		vars := slices.Concat(texts(xs), texts(ys), []string{"z"})
		l := slices.Concat(xs[:n], ys[:n])
		r := slices.Concat(double(xs), double(ys))
		want := api.OK
		if n > 12 { // (P x x) of n turns has 3 * 2^n - 2 parts
			want = api.ErrLimit
		}
		ask := func(what string, l, r []api.Form, want api.Errno) {
			t.Helper()
			if got, err := kind.UnifyAll(l, r, vars); err != want || err != api.OK && got != nil {
				t.Errorf("%d turns, %s: error %d, want %d", n, what, err, want)
			}
		}
		ask("both", l, r, want)
		ask("made equal", append(slices.Clone(l), xs[0]), append(slices.Clone(r), ys[0]), want)
		ask("made equal first", append([]api.Form{xs[0]}, l...), append([]api.Form{ys[0]}, r...), want)
		ask("not equal", append(slices.Clone(l), xs[n], ys[n], xs[0]), append(slices.Clone(r), word("int"), word("bool"), ys[0]), api.ErrType)
		ask("in a loop", append(slices.Clone(l), xs[n]), append(slices.Clone(r), list(word("seq"), xs[0])), api.ErrLoop)
		ask("in a loop of both", append(slices.Clone(l), xs[0], ys[n]), append(slices.Clone(r), ys[0], list(word("seq"), xs[0])), api.ErrLoop)
	}
}

// R1: long chains of variables end soon.
func TestUnifyLong(t *testing.T) {
	xs := chain("x", 6000)
	vars := texts(xs)
	for range 2 {
		l, r := slices.Clone(xs[1:]), slices.Clone(xs[:len(xs)-1])
		got, err := kind.UnifyAll(append(l, xs...), append(r, xs...), vars)
		if err != api.OK || len(got) != len(xs)-1 {
			t.Errorf("variables only: %d pairs, error %d", len(got), err)
		}
		for i := range r {
			r[i] = list(word("seq"), r[i])
		}
		if got, err := kind.UnifyAll(l, r, vars); err != api.ErrLimit || got != nil {
			t.Errorf("variables in types: %d pairs, error %d", len(got), err)
		}
		l, r = append(l, xs[len(xs)-1], xs[0]), append(r, xs[0], list(word("seq"), xs[len(xs)-1]))
		if got, err := kind.UnifyAll(l, r, vars); err != api.ErrLoop || got != nil {
			t.Errorf("a loop: %d pairs, error %d", len(got), err)
		}
		slices.Reverse(xs)
	}
}

// P3.2: pairs are written out: they share parts, and are right all the same.
func TestUnifyWrittenOut(t *testing.T) {
	n := 10
	xs, ys := chain("x", n), chain("y", n)
	l := slices.Concat(xs[:n], ys[:n], xs[:1], xs[n:])
	r := slices.Concat(double(xs), double(ys), ys[:1], []api.Form{word("int")})
	got, err := kind.UnifyAll(l, r, slices.Concat(texts(xs), texts(ys)))
	if err != api.OK || len(got) != 2*n+2 {
		t.Fatalf("%d pairs, error %d", len(got), err)
	}
	var want []api.Form
	f := word("int")
	for range n + 1 {
		want = append(want, f)
		f = list(word("P"), f, f)
	}
	for _, pair := range got {
		i, _ := strconv.Atoi(pair.Name[1:])
		if !identical(pair.To, want[n-i]) {
			t.Errorf("%s is %s", pair.Name, reader.Write(pair.To))
		}
	}
	if !slices.IsSortedFunc(got, func(a, b kind.Pair) int { return strings.Compare(a.Name, b.Name) }) {
		t.Errorf("not ascending: %q", told(got))
	}
}
