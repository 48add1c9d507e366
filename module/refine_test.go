package module_test

import (
	"strings"
	"testing"

	"plinth/api"
	"plinth/module"
	"plinth/reader"
	"plinth/shape"
)

// asked asks Refine about a declaration and another one.
func asked(t *testing.T, a, b, want string) {
	t.Helper()
	f, err := module.Refine(form(a), form(b))
	got := failed(err)
	if err == api.OK {
		got = reader.Write(f)
	} else if !identical(f, api.Form{}) {
		t.Errorf("Refine %s by %s: %s with an error", a, b, reader.Write(f))
	}
	if got != want {
		t.Errorf("Refine %s by %s:\n got %s\nwant %s", a, b, got, want)
	}
}

// refined asks Refine about callable declarations and, where they may be members
// of one name, about classes with them.
func refined(t *testing.T, a, b, want string) {
	t.Helper()
	asked(t, a, b, want)
	within := func(s string) string { return "(class K (T) (field other int) " + s + " (lemma last () ()))" }
	isMember := func(s string) bool { return shape.Decl(form(within(s))) == api.OK }
	switch {
	case !isMember(a) || !isMember(b) || shape.Name(form(a)) != shape.Name(form(b)):
	case want == wrong:
		asked(t, within(a), within(b), wrong)
	default:
		asked(t, within(a), within(b), within(want))
	}
}

const wrong = "error 8"

// P6.2: what must be equal is refined by what is equal alone.
func TestRefineEqual(t *testing.T) {
	l := []string{
		"(data D () (C))", "(data D () (E))", "(data D () (C) (E))", "(data D (a) (C))", "(data D (a) (eq a) (C))", "(data E () (C))", "(codata D () (C))", "(data D () (C (x int)))", "(data D () (C (y int)))",
		"(sub D (x int) true 0)", "(sub D (y int) true 0)", "(sub D (x int) true 1)", "(sub D (x int) (= x x) 0)", "(sub D (x bool) true 0)",
		"(trait D ())", "(trait D (T))", "(trait D () (method m () ()))", "(trait D () (method m () () (ensures true)))", "(class D ())",
		"(function D (tp a) ((x a)) int)", "(function D (tp a) ((x a)) int (ensures true))", "(function D (tp b) ((x b)) int)", "(function D (tp a) ((x a)) int x)", "(predicate D (tp a) ((x a)))", "(predicate D (tp a) ((x a)) true)", "(function D ((x a)) int)", "(predicate D ((x a)))", "(ghost (function D (tp a) ((x a)) int))", "(ghost (predicate D (tp a) ((x a)) true))",
	}
	for _, a := range l {
		for _, b := range l {
			want := wrong
			if a == b {
				want = a
			}
			asked(t, a, b, want)
		}
	}
}

// P6.2: heads, names, params and results must be the same.
func TestRefineSignature(t *testing.T) {
	l := []string{
		"(function f () int)", "(function f () bool)", "(function g () int)", "(function f ((x int)) int)", "(function f ((y int)) int)", "(function f ((x bool)) int)", "(function f ((x int) (y int)) int)", "(ghost (function f () int))", "(ghost (function f ((x int)) int))",
		"(predicate f ())", "(predicate g ())", "(predicate f ((x int)))", "(ghost (predicate f ()))", "(twostate f ())", "(twostate f ((x int)))",
		"(method f () ())", "(method g () ())", "(method f ((x int)) ())", "(method f () ((x int)))", "(method f ((x int)) ((y int)))", "(method f ((x int)) ((z int)))", "(ghost (method f () ()))", "(ghost (method f () ((x int))))", "(ghost (method g () ()))",
		"(lemma f () ())", "(lemma f ((x int)) ())", "(lemma f () ((x int)))",
	}
	for _, a := range l {
		for _, b := range l {
			want := wrong
			if a == b {
				want = a
			}
			refined(t, a, b, want)
		}
	}
	for _, a := range []string{"(extern f ((x int)) ())", "(extern f () ((x int)))", "(method f () ())", "(lemma f () ())", "(extern g () ())", "(ghost (method f () ()))"} {
		refined(t, a, "(extern f () ())", wrong)
		refined(t, "(extern f () ())", a, wrong)
	}
	refined(t, "(extern f () ())", "(extern f () ())", "(extern f () ())")
}

// P6.2: clauses: those of the first one, and the ensures of the other one.
func TestRefineClauses(t *testing.T) {
	for _, own := range []string{"(requires true)", "(reads)", "(reads x)", "(decreases)", "(decreases x)", "(opaque)", "(fuel 3)"} {
		for _, s := range []string{"(function f () int @)", "(predicate f () @)", "(twostate f () @)", "(ghost (function f () int @))", "(ghost (predicate f () @))", "(function f () int (ensures true) @)", "(predicate f () @ (ensures true))"} {
			refined(t, strings.Replace(s, "@", "", 1), strings.Replace(s, "@", own, 1), wrong)
			refined(t, strings.Replace(s, "@", own, 1), strings.Replace(s, "@", own, 1), wrong)
		}
		refined(t, "(function f () int)", "(function f () int "+own+" 1)", wrong)
		refined(t, "(function f () int "+own+")", "(function f () int (ensures a))", "(function f () int "+own+" (ensures a))")
		refined(t, "(function f () int "+own+")", "(function f () int (ensures a) 1)", "(function f () int "+own+" (ensures a) 1)")
		refined(t, "(predicate f () (ensures b) "+own+" true)", "(predicate f () (ensures a))", "(predicate f () (ensures b) "+own+" (ensures a) true)")
		refined(t, "(twostate f () "+own+" (by) true)", "(twostate f ())", "(twostate f () "+own+" (by) true)")
	}
	for _, own := range []string{"(requires true)", "(modifies)", "(modifies x)", "(decreases)", "(decreases x)"} {
		for _, s := range []string{"(method f () () @)", "(lemma f () () @)", "(extern f () () @)", "(ghost (method f () () @))", "(method f () () (ensures true) @)", "(lemma f () () @ (ensures true))"} {
			refined(t, strings.Replace(s, "@", "", 1), strings.Replace(s, "@", own, 1), wrong)
			refined(t, strings.Replace(s, "@", own, 1), strings.Replace(s, "@", own, 1), wrong)
		}
		refined(t, "(method f () ())", "(method f () () "+own+" (body))", wrong)
		refined(t, "(method f () () "+own+" (ensures b))", "(method f () () (ensures a) (ensures b))", "(method f () () "+own+" (ensures b) (ensures a) (ensures b))")
		refined(t, "(method f () () (ensures a) "+own+" (body))", "(method f () () (ensures b))", "(method f () () (ensures a) "+own+" (ensures b) (body))")
		refined(t, "(lemma f () () "+own+")", "(lemma f () () (ensures b) (body (leave)))", "(lemma f () () "+own+" (ensures b) (body (leave)))")
		refined(t, "(ghost (method f () () "+own+"))", "(ghost (method f () () (ensures b) (body)))", "(ghost (method f () () "+own+" (ensures b) (body)))")
		refined(t, "(extern f () () "+own+")", "(extern f () () (ensures a))", "(extern f () () "+own+" (ensures a))")
	}
}

// P6.2: a body, or E with its by, may be given where there is none.
func TestRefineBody(t *testing.T) {
	for _, s := range []string{"(function f () int @)", "(predicate f () @)", "(twostate f () @)", "(ghost (function f () int @))", "(ghost (predicate f () @))"} {
		with := func(body string) string {
			return strings.Replace(strings.Replace(s, "@", body, 1), " )", ")", 1)
		}
		for _, body := range []string{"1", "x", "true", "result", "(+ 1 x)", "(by) 1", "(by (set result 1) (leave)) (call g)", "(fuel 2 f x)", "(by) (fuel 0 f x)"} {
			refined(t, with(""), with(body), with(body))
			refined(t, with(body), with(""), with(body))
			refined(t, with("(requires a)"), with("(ensures b) "+body), with("(requires a) (ensures b) "+body))
			refined(t, with("(fuel 1) "+body), with("(ensures b) (ensures c)"), with("(fuel 1) (ensures b) (ensures c) "+body))
			for _, other := range []string{"1", "(by) 1", "(fuel 2 f x)"} {
				refined(t, with(body), with(other), wrong)
				refined(t, with(body), with("(ensures true) "+other), wrong)
			}
			refined(t, with(body), with(body), wrong)
		}
	}
	for _, head := range []string{"(method f () () @)", "(lemma f () () @)", "(extern f () () @)", "(ghost (method f () () @))"} {
		with := func(body string) string { return strings.Replace(strings.Replace(head, "@", body, 1), " )", ")", 1) }
		for _, body := range []string{"(body)", "(body (leave))", "(body (block) (leave))"} {
			refined(t, with(""), with(body), with(body))
			refined(t, with(body), with(""), with(body))
			refined(t, with("(ensures a)"), with(body), with("(ensures a) "+body))
			refined(t, with("(ensures a) "+body), with("(ensures b)"), with("(ensures a) (ensures b) "+body))
			refined(t, with(body), with("(body)"), wrong)
			refined(t, with(body), with("(ensures a) "+body), wrong)
		}
	}
	// These always have an E.
	for _, head := range []string{"least", "greatest"} {
		for _, other := range []string{"least", "greatest"} {
			refined(t, "("+head+" f () true)", "("+other+" f () true)", wrong)
		}
	}
}

// P6.2: classes: equal traits, members refined one by one, new ones behind.
func TestRefineClass(t *testing.T) {
	for _, c := range []struct{ a, b, want string }{
		{"(class C ())", "(class C ())", "(class C ())"}, {"(class C (T U))", "(class C (T U))", "(class C (T U))"}, {"(class C (T))", "(class C ())", wrong}, {"(class C ())", "(class C (T))", wrong}, {"(class C (T U))", "(class C (U T))", wrong}, {"(class C ())", "(class D ())", wrong}, {"(class C ())", "(trait C ())", wrong},
		{"(class C () (field x int))", "(class C ())", "(class C () (field x int))"}, {"(class C () (field x int))", "(class C () (field x int))", "(class C () (field x int))"}, {"(class C () (field x int))", "(class C () (field x bool))", wrong}, {"(class C () (field x int))", "(class C () (ghost (field x int)))", wrong}, {"(class C () (ghost (field x int)))", "(class C () (ghost (field x int)))", "(class C () (ghost (field x int)))"}, {"(class C () (ghost (field x int)))", "(class C () (ghost (field x (seq int))))", wrong}, {"(class C () (field x int))", "(class C () (function x () int))", wrong}, {"(class C () (ghost (function x () int)))", "(class C () (ghost (field x int)))", wrong},
		{"(class C ())", "(class C () (field y int) (ghost (field x int)))", "(class C () (field y int) (ghost (field x int)))"}, {"(class C () (method m () () (body)))", "(class C () (method m () ()) (method n () () (requires true) (body)))", "(class C () (method m () () (body)) (method n () () (requires true) (body)))"},
		{"(class C () (field x int) (method m () () (requires a)) (field y int) (predicate p ()))", "(class C () (field z int) (predicate p () true) (field y int) (function q () int) (method m () () (ensures b) (body)))", "(class C () (field x int) (method m () () (requires a) (ensures b) (body)) (field y int) (predicate p () true) (field z int) (function q () int))"},
		{"(class C () (method m () () (body)))", "(class C () (method m () () (body)))", wrong}, {"(class C () (method m () ()) (method n () ()))", "(class C () (field x int) (method n () () (requires a)))", wrong},
	} {
		asked(t, c.a, c.b, c.want)
	}
}

// P6.2: Refine of what is no declaration.
func TestRefineForm(t *testing.T) {
	a := "(method f () ())"
	for _, s := range []string{"1", "f", `"f"`, "()", "(foo)", "(method f ())", "(field x int)", "(ghost (field x int))", "(method f ((x int) (x int)) ())", "(data D () (C) (C))", "(module A)", "(leave)", "(ghost (ghost (method f () ())))"} {
		asked(t, a, s, failed(api.ErrForm))
		asked(t, s, a, failed(api.ErrForm))
		asked(t, s, s, failed(api.ErrForm))
	}
	for what, f := range noForms() {
		for _, pair := range [][2]api.Form{{f, f}, {f, form(a)}, {form(a), f}} {
			if got, err := module.Refine(pair[0], pair[1]); err != api.ErrForm || !identical(got, api.Form{}) {
				t.Errorf("Refine %s: error %d", what, err)
			}
		}
	}
	asked(t, "(data D () (C))", "(method m () () (body 1))", failed(api.ErrForm))
}
