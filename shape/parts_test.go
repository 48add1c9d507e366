package shape_test

import (
	"slices"
	"strings"
	"testing"

	"plinth/api"
	"plinth/reader"
	"plinth/shape"
)

// P4.2: names.
func TestIsName(t *testing.T) {
	for s, want := range map[string]bool{
		"a": true, "z": true, "A": true, "Z": true, "x_1": true, "a__": true, "aB9z_0": true, strings.Repeat("a", 20): true, "Int": true, "ints": true, "fu": true, "v_0": true, "result_": true, "results": true,
		"": false, strings.Repeat("a", 21): false, "1": false, "1a": false, "_a": false, "_": false, "a-b": false, "a b": false, "a.b": false, "a'": false, " a": false, "a ": false, "a\n": false, "é": false, "aé": false, "@": false, "[": false, "`": false, "{": false, "a@": false, "a[": false, "a`": false, "a{": false, "a/": false, "a:": false, "a(": false,
	} {
		if got := shape.IsName(s); got != want {
			t.Errorf("IsName %q: %v", s, got)
		}
	}
	for _, s := range shape.Reserved() {
		if shape.IsName(s) {
			t.Errorf("IsName %q", s)
		}
		if s[0] >= 'a' && !shape.IsName(s+"_") {
			t.Errorf("no name: %q", s+"_")
		}
	}
}

// P4.2: the reserved words.
func TestReserved(t *testing.T) {
	want := strings.Fields(`true false null this result int bool + - * div mod neg < <= = not and or => iff if let pick match fn app of call make is get
		bits band bor bxor badd bnum seq set bag map empty imap len at cat cut put in join meet less card count look keys
		all some every any forall exists trigger old fresh fuel prefix
		var store new send choose while invariant decreases modifies case assert by assume expect leave label each lemma requires ensures calc reveal ghost block
		data codata eq sub trait class field function predicate twostate least greatest tp reads opaque method extern body
		fun maybe module open refines abstract`)
	slices.Sort(want)
	got := shape.Reserved()
	if !slices.Equal(got, want) {
		t.Fatalf("Reserved: %q", got)
	}
	got[0] = "x"
	if again := shape.Reserved(); !slices.Equal(again, want) {
		t.Errorf("Reserved again: %q", again)
	}
}

// P4.2: the Kids of expressions that are expressions.
func TestKids(t *testing.T) {
	for _, c := range []struct {
		f    string
		want []int
	}{
		{"0", nil}, {"x", nil}, {"true", nil}, {"result", nil},
		{"(+ 1 2)", []int{1, 2}}, {"(neg 1)", []int{1}}, {"(= a b)", []int{1, 2}}, {"(not a)", []int{1}}, {"(and)", nil}, {"(or a b c)", []int{1, 2, 3}}, {"(=> a b)", []int{1, 2}}, {"(if (< a b) b a)", []int{1, 2, 3}},
		{"(let (x 1) x)", []int{2}}, {"(pick (x 1 2) x 3)", []int{2, 3}}, {"(match 1 (C () 1) (D () 2))", []int{1}}, {"(fn ((x int)) x)", []int{2}}, {"(app f)", []int{1}}, {"(app f 1 2)", []int{1, 2, 3}},
		{"(call f)", nil}, {"(call f 1 2)", []int{2, 3}}, {"(call f (of int))", nil}, {"(call f (of int) 1 2)", []int{3, 4}}, {"(make C)", nil}, {"(make C x)", []int{2}}, {"(make C (of a) x)", []int{3}}, {"(is C x)", []int{2}}, {"(get f x)", []int{2}},
		{"(bits 3 1)", nil}, {"(band a b)", []int{1, 2}}, {"(bnum a)", []int{1}}, {"(seq)", nil}, {"(seq 1 2)", []int{1, 2}}, {"(set 1)", []int{1}}, {"(bag 1 1)", []int{1, 2}}, {"(map (1 2))", nil}, {"(empty x)", nil}, {"(imap 1 x)", []int{1}},
		{"(len s)", []int{1}}, {"(at s 1)", []int{1, 2}}, {"(cut s 1 2)", []int{1, 2, 3}}, {"(put s 1 2)", []int{1, 2, 3}}, {"(in x s)", []int{1, 2}}, {"(less a b)", []int{1, 2}}, {"(card s)", []int{1}}, {"(count x b)", []int{1, 2}}, {"(look m k)", []int{1, 2}}, {"(keys m)", []int{1}},
		{"(all (x 1 2) a)", []int{2}}, {"(some (x 1 2) a)", []int{2}}, {"(every (x s) a)", []int{2}}, {"(any (x s) a)", []int{2}}, {"(forall ((x int)) a)", []int{2}}, {"(forall ((x int)) (trigger x) a)", []int{3}}, {"(exists ((x int)) (trigger x) (trigger x) a)", []int{4}},
		{"(old x)", []int{1}}, {"(old l x)", []int{2}}, {"(fresh x)", []int{1}}, {"(fuel 1 f x)", []int{3}}, {"(prefix f 1)", []int{2}}, {"(prefix f n 1 2)", []int{2, 3, 4}},
	} {
		if got, err := shape.Kids(form(c.f)); err != api.OK || !slices.Equal(got, c.want) {
			t.Errorf("Kids of %s: %v, error %d", c.f, got, err)
		}
	}
	for _, s := range []string{`"x"`, "()", "while", "(foo)", "(+ 1)", "(+ 1 (foo))", "(leave)", "(call () f)", "(data D () (A))", "(fn ((x int) (x int)) 1)", "(seq 1 (match 1 (C (x x) 1)))", "(trigger x)", "(of int)", "(requires a)"} {
		if got, err := shape.Kids(form(s)); err != api.ErrForm || len(got) > 0 {
			t.Errorf("Kids of %s: %v, error %d", s, got, err)
		}
	}
}

// A parted is a declaration with all that is told of it: Name, the clauses of
// Clause (heads, each with its parts behind), Params, Results, Body, By.
type parted struct {
	decl, name, clauses, params, results, body, by string
	hasBody, hasBy                                 bool
}

var partedDecls = []parted{
	{decl: "(data D (a) (eq a) (A) (B (x int)))", name: "D"}, {decl: "(codata S (a) (A))", name: "S"}, {decl: "(sub nat (n int) (<= 0 n) 0)", name: "nat"}, {decl: "(trait T (A) (field x int))", name: "T"},
	{decl: "(class C () (method m ((x int)) ((y int)) (requires a) (body)))", name: "C"}, {decl: "(class C () (field x int) (ghost (function f () int 1)))", name: "C"},
	{decl: "(function f () int)", name: "f"}, {decl: "(function f ((x int) (y a)) int x)", name: "f", params: "(x int) (y a)", body: "x", hasBody: true}, {decl: "(function f (tp a b) ((x a)) b)", name: "f", params: "(x a)"},
	{decl: "(function f (tp a) ((x a)) (seq a) (requires 1) (reads 2 3) (requires 4) (ensures 5) (decreases 6 7) (reads) (fuel 8) (opaque) (by (leave) (set result x)) (seq x))", name: "f", clauses: "(requires 1 4) (reads 2 3) (ensures 5) (decreases 6 7) (fuel 8)", params: "(x a)", body: "(seq x)", hasBody: true, by: "(leave) (set result x)", hasBy: true},
	{decl: "(function f () int (by) 1)", name: "f", body: "1", hasBody: true, hasBy: true}, {decl: "(function f () (requires 1) (requires 2))", name: "f", clauses: "(requires 2)"}, {decl: "(function f () int (fuel 1))", name: "f", clauses: "(fuel 1)"}, {decl: "(function f () int (fuel 2) (fuel 1 f x))", name: "f", clauses: "(fuel 2)", body: "(fuel 1 f x)", hasBody: true}, {decl: "(function f () int (fuel 1 f x))", name: "f", body: "(fuel 1 f x)", hasBody: true},
	{decl: "(predicate p ((x int)) (requires 1))", name: "p", clauses: "(requires 1)", params: "(x int)"}, {decl: "(predicate p (tp a) () (ensures result) x)", name: "p", clauses: "(ensures result)", body: "x", hasBody: true}, {decl: "(predicate p () (by (leave)) x)", name: "p", body: "x", hasBody: true, by: "(leave)", hasBy: true},
	{decl: "(twostate t ((x int)) (reads x) (old x))", name: "t", clauses: "(reads x)", params: "(x int)", body: "(old x)", hasBody: true}, {decl: "(least l ((x int)) (call l x))", name: "l", params: "(x int)", body: "(call l x)", hasBody: true}, {decl: "(greatest g () true)", name: "g", body: "true", hasBody: true},
	{decl: "(method m () ())", name: "m"}, {decl: "(method m ((x int)) ((y int) (z bool)) (requires 1) (ensures 2) (modifies 3 4) (modifies 5) (decreases) (ensures 6) (body (leave)))", name: "m", clauses: "(requires 1) (ensures 2 6) (modifies 3 4 5)", params: "(x int)", results: "(y int) (z bool)", body: "(body (leave))", hasBody: true},
	{decl: "(method m () ((y int)) (body))", name: "m", results: "(y int)", body: "(body)", hasBody: true}, {decl: "(method m () () (body (assert a (by (leave)))))", name: "m", body: "(body (assert a (by (leave))))", hasBody: true}, {decl: "(lemma l ((x int)) () (requires 1) (body))", name: "l", clauses: "(requires 1)", params: "(x int)", body: "(body)", hasBody: true}, {decl: "(extern e ((x int)) ((y int)) (ensures 1))", name: "e", clauses: "(ensures 1)", params: "(x int)", results: "(y int)"}, {decl: "(extern e () () (body))", name: "e", body: "(body)", hasBody: true},
	{decl: "(ghost (method m ((x int)) ((y int)) (decreases 1 2) (body (leave))))", name: "m", clauses: "(decreases 1 2)", params: "(x int)", results: "(y int)", body: "(body (leave))", hasBody: true}, {decl: "(ghost (function f (tp a) ((x a)) a (by (leave)) x))", name: "f", params: "(x a)", body: "x", hasBody: true, by: "(leave)", hasBy: true}, {decl: "(ghost (predicate p ()))", name: "p"},
	// Without a declaration that Decl lets: nothing.
	{decl: "1"}, {decl: "x"}, {decl: `"x"`}, {decl: "()"}, {decl: "(foo f () int)"}, {decl: "(field x int)"}, {decl: "(ghost (field x int))"}, {decl: "(function f ((x int)) int (requires 1) (by) (requires 2) 1)"}, {decl: "(function f ((x int) (x int)) int (requires 1) 1)"}, {decl: "(method m ((x int)) ((y int)) (requires 1) (body) (body))"},
	{decl: "(method m ((x int)) ((x int)) (requires 1) (body))"}, {decl: "(method m ((x int)) ((y int)) (requires 1) (body (foo)))"}, {decl: "(ghost (lemma l ((x int)) ((y int)) (requires 1) (body)))"}, {decl: "(data D ())"}, {decl: "(lemma (x 1 2) (requires 1) f)"}, {decl: "(function f () int (by))"}, {decl: "(least l ((x int)) (requires 1) 1)"}, {decl: "(block)"}, {decl: "(+ 1 2)"},
}

// P4.2: the parts of declarations.
func TestPartsOfDecl(t *testing.T) {
	heads := append(shape.Reserved(), "", "f", "m", "nope")
	for _, c := range partedDecls {
		d := form(c.decl)
		if got := shape.Name(d); got != c.name {
			t.Errorf("Name of %s: %q", c.decl, got)
		}
		clauses := map[string]string{}
		l, _ := reader.Read(c.clauses)
		for _, f := range l {
			clauses[reader.Head(f)] = written(f.Kids[1:])
		}
		for _, head := range heads {
			if got := written(shape.Clause(d, head)); got != clauses[head] {
				t.Errorf("Clause %q of %s: %s", head, c.decl, got)
			}
		}
		if got := written(shape.Params(d)); got != c.params {
			t.Errorf("Params of %s: %s", c.decl, got)
		}
		if got := written(shape.Results(d)); got != c.results {
			t.Errorf("Results of %s: %s", c.decl, got)
		}
		body, ok := shape.Body(d)
		if ok != c.hasBody || ok && reader.Write(body) != c.body || !ok && !identical(body, api.Form{}) {
			t.Errorf("Body of %s: %v %v", c.decl, body, ok)
		}
		by, ok := shape.By(d)
		if ok != c.hasBy || written(by) != c.by {
			t.Errorf("By of %s: %s %v", c.decl, written(by), ok)
		}
	}
	for name, f := range hostile() {
		for _, d := range []api.Form{f, list(word("method"), word("m"), list(), list(), list(word("body"), f))} {
			_, hasBody := shape.Body(d)
			_, hasBy := shape.By(d)
			if shape.Name(d) != "" || len(shape.Clause(d, "requires"))+len(shape.Params(d))+len(shape.Results(d)) > 0 || hasBody || hasBy {
				t.Errorf("parts of %s", name)
			}
		}
	}
}

// P4.2 and R5: the lists that are told are new memory.
func TestPartsAreNew(t *testing.T) {
	d := form("(function f ((x int)) int (requires 1) (decreases 2 3) (by (leave)) x)")
	m := form("(method m ((x int)) ((y int)) (body))")
	before, beforeM := clone(d), clone(m)
	by, _ := shape.By(d)
	for _, l := range [][]api.Form{shape.Params(d), shape.Clause(d, "requires"), shape.Clause(d, "decreases"), by, shape.Params(m), shape.Results(m)} {
		if len(l) == 0 {
			t.Fatal("nothing is told")
		}
		l[0] = num(7)
		_ = append(l[:0], num(8), num(9))
	}
	if !identical(d, before) || !identical(m, beforeM) {
		t.Errorf("%s and %s have changed", reader.Write(d), reader.Write(m))
	}
}

// P4.2: the names that are called.
func TestCalls(t *testing.T) {
	for _, c := range []struct{ f, want string }{
		{"1", ""}, {"f", ""}, {"call", ""}, {`"call"`, ""}, {"()", ""}, {"(call)", ""}, {"(lemma)", ""}, {"(prefix)", ""}, {"(fuel)", ""},
		{"(call f)", "f"}, {"(call f g h)", "f"}, {"(call f (of g) (call h))", "f h"}, {"(call () f)", "f"}, {"(call (x y) f g)", "f"}, {"(call (x))", ""}, {"(call (x) (f))", ""}, {"(call 1 f)", ""}, {`(call "f" g)`, ""}, {"(call () 1 f)", ""}, {"(call () () f)", ""},
		{"(lemma (x 1 2) (requires a) f g)", "f"}, {"(lemma (x 1 (call h)) (requires (call g)) f)", "f g h"}, {"(lemma f g h)", ""}, {"(lemma f (x) g h)", ""}, {"(lemma (x) g)", ""}, {"(lemma () 1 f)", "f"}, {"(lemma () f 1 g)", ""}, {"(lemma () 1 (f))", ""}, {"(lemma l ((x int)) ((y int)))", ""},
		{"(prefix f 1 g)", "f"}, {"(prefix 1 f)", ""}, {"(prefix (f) g)", ""}, {"(fuel 1 f x)", "f"}, {"(fuel g f x)", "f"}, {"(fuel (g) f)", "f"}, {"(fuel f)", ""}, {"(fuel 1)", ""}, {"(fuel 1 (f))", ""}, {"(fuel 1 2 f)", ""},
		// Names alone.
		{"(call if)", ""}, {"(call result)", ""}, {"(call 1a)", ""}, {"(call a-b)", ""}, {"(call longer_than_any_name_)", ""}, {"(call () longer_than_any_name)", "longer_than_any_name"}, {"(prefix this 1)", ""}, {"(fuel 1 int x)", ""}, {"(lemma () () true)", ""},
		// Others call nothing here.
		{"(reveal f)", ""}, {"(send (x) o m 1)", ""}, {"(make C)", ""}, {"(get f x)", ""}, {"(app f 1)", ""}, {"(f x)", ""}, {"(calls f)", ""}, {"((call) f)", ""},
		// Everywhere, ascending, each once.
		{"(foo (bar (call b) 1 (call a (call c) (call b))))", "a b c"}, {"((call f) (call () g))", "f g"}, {"(data D () (call f))", "f"}, {"(call (call f) g)", "f g"}, {"(empty (call f))", "f"}, {"(seq (call B) (call a) (call a1) (call a_) (call A))", "A B a a1 a_"},
		{"(method m ((x int)) () (requires (call a)) (decreases (prefix b 1)) (body (call () c) (while (fuel 1 d x) () (lemma (x 1 2) (requires 1) e)) (reveal f)))", "a b c d e"},
	} {
		if got := strings.Join(shape.Calls(form(c.f)), " "); got != c.want {
			t.Errorf("Calls of %s: %s", c.f, got)
		}
	}
}

// P4.2: Calls looks at any form, and not at fields that a Kind does not have.
func TestCallsOfAny(t *testing.T) {
	call := list(word("call"), word("f"))
	for name, f := range hostile() {
		if got := shape.Calls(f); len(got) > 0 {
			t.Errorf("Calls of %s: %q", name, got)
		}
		if got := shape.Calls(list(f, call)); !slices.Equal(got, []string{"f"}) {
			t.Errorf("Calls of %s and a call: %q", name, got)
		}
	}
	for _, f := range []api.Form{{Kind: api.Word, Text: "x", Kids: []api.Form{call}}, {Kind: 7, Kids: []api.Form{call}}, {Kind: 7, Kids: call.Kids}, list(word("call"), text("f")), list(word("call"), api.Form{Kind: 7, Text: "f"}), list(text("call"), word("f")), list(api.Form{Kind: 7, Text: "call"}, word("f"))} {
		if got := shape.Calls(f); len(got) > 0 {
			t.Errorf("Calls of %v: %q", f, got)
		}
	}
}
