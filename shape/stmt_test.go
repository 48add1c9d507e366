package shape_test

import (
	"strings"
	"testing"

	"plinth/api"
	"plinth/shape"
)

// stmts are statements: of each head with as few and with more Kids.
var stmts = []string{
	"(var x int)", "(var x int 1)", "(var x ())", "(var x (foo 1) (seq))", "(var x set)", "(set x 1)", "(set result 1)", "(store o f 1)", "(store (call f) x (call f))",
	"(new x C)", "(new x C (f 1))", "(new x C (f 1) (g 2) (f 3))", "(new result C)",
	"(call () f)", "(call () f 1 2)", "(call (x) f)", "(call (x y z) f 1)", "(call (result) f)", "(call (x result) f)",
	"(send () o m)", "(send (x y) o m 1 2)", "(send (result) this m)", "(choose x 1 2 true)", "(choose result x y (< x y))",
	"(if a () ())", "(if a ((leave)) ())", "(if a () ((leave) (leave)))", "(if a ((if b () ())) ((if b () ())))",
	"(while a ())", "(while a () (leave) (leave))", "(while a ((invariant b)))", "(while a ((modifies) (decreases) (invariant b) (invariant b) (modifies x y)) (leave))", "(while a ((decreases x y)))",
	"(case e (C ()))", "(case e (C (x y) (leave)))", "(case e (C ()) (C ()) (D (x) (leave) (leave)))",
	"(assert a)", "(assert a (by))", "(assert a (by (leave) (leave)))", "(assume a)", "(expect a)", "(leave)", "(label l)", "(label l (leave) (leave))",
	"(each (x 1 2) (store o f x))", "(lemma (x 1 2) (requires a) f)", "(lemma (x 1 2) (requires a) f x x)",
	"(calc 1)", "(calc 1 (= 2))", "(calc 1 (<= 2) (< 3) (=> 4) (iff 5))", "(calc 1 (= 2 (by)) (= 3 (by (leave) (leave))))",
	"(reveal f)", "(ghost)", "(ghost (leave) (leave))", "(block)", "(block (leave) (leave))",
	"(assert a (by (set result 1)))", "(calc 1 (= 2 (by (call (result) f))))", "(block (while a () (set result 1)))",
}

// P4.1: what is a statement.
func TestStmt(t *testing.T) {
	asked(t, questions()[1], allTold(api.OK, stmts...))
	for _, s := range stmts {
		asked(t, questions()[1], allTold(api.OK, "(if a ("+s+") ())", "(if a () ("+s+"))", "(while a () "+s+")", "(case 1 (C () "+s+"))", "(assert a (by "+s+"))",
			"(label l "+s+")", "(calc 1 (= 2 (by "+s+")))", "(ghost "+s+")", "(block (leave) "+s+" "+s+")"))
	}
}

// P4.1: heads that are none, other Kids than said, names that are none.
func TestNoStmt(t *testing.T) {
	cases := allTold(api.ErrForm,
		"1", "x", `"x"`, "true", "()", "(())", "(1)", "((leave))", "(x)", "(foo 1)", "(+ 1 2)", "(invariant a)", "(by)", "(call f 1)", "(body)", "(requires a)",
		"(var)", "(var x)", "(var x 1)", `(var x "int")`, "(var x int 1 2)", "(var 1 int)", "(var result int)", "(var (x int))", "(var true int)",
		"(set)", "(set x)", "(set x 1 2)", "(set 1 1)", "(set (x) 1)", "(set this 1)", "(set true 1)", "(set 1a 1)",
		"(store)", "(store o f)", "(store o f 1 2)", "(store o 1 1)", "(store o result 1)", "(store o (f) 1)",
		"(new)", "(new x)", "(new x 1)", "(new 1 C)", "(new x C f)", "(new x C (f))", "(new x C (f 1 2))", "(new x C (1 1))", "(new x C 1)", "(new x C ())", "(new x result)", "(new (x) C)",
		"(call)", "(call ())", "(call () 1)", "(call (1) f)", "(call ((x)) f)", "(call x f)", "(call () (f))", "(call () f (of int))", "(call () f (of int) 1)", "(call () result)", "(call (this) f)",
		"(send)", "(send ())", "(send () o)", "(send () o 1)", "(send x o m)", "(send (1) o m)", "(send () o (m))", "(send o m)", "(send () o m (of int))", "(send () o result)",
		"(choose)", "(choose x 1 2)", "(choose x 1 2 3 4)", "(choose 1 1 2 3)", "(choose (x 1 2) 3)",
		"(if)", "(if a)", "(if a ())", "(if a () () ())", "(if a b c)", "(if a (leave) ())", "(if a () (leave))", "(if a () 1)", "(if a (1) ())",
		"(while)", "(while a)", "(while a b)", "(while a (invariant b))", "(while a ((invariant)))", "(while a ((invariant a b)))", "(while a ((requires a)))", "(while a ((foo)))", "(while a (1))", "(while a (()))", "(while a () b)", "(while a () ())", "(while (a) ())", "(while a ((reads x)))", "(while a ((fuel 1)))", "(while a ((by)))", "(while a ((opaque)))", "(while a ((ensures a)))",
		"(case)", "(case e)", "(case e C)", "(case e (C))", "(case e ())", "(case e (C x))", "(case e (C (1)))", "(case e (1 ()))", "(case e (C () 1))", "(case e (C ()) 1)", "(case e (C () ()))", "(case e (result ()))",
		"(assert)", "(assert a b)", "(assert a (by) (by))", "(assert a ())", "(assert a (leave))", "(assert a (by 1))", "(assert (by))", "(assert a (by a))", "(assume)", "(assume a b)", "(assume a (by))", "(expect)", "(expect a b)", "(expect a (by))",
		"(leave 1)", "(leave ())", "(label)", "(label 1)", "(label (l))", "(label l 1)", "(label (leave))", "(label l l)", "(label result)",
		"(each)", "(each (x 1 2))", "(each (x 1 2) (leave))", "(each (x 1 2) (set y 1))", "(each (x 1 2) (store o f))", "(each (x 1) (store o f x))", "(each x (store o f x))", "(each (x 1 2) (store o f x) (store o f x))", "(each (x 1 2) store)", "(each (1 1 2) (store o f 1))", "(each (result 1 2) (store o f 1))", "(each (x 1 2) ())",
		"(lemma)", "(lemma f)", "(lemma f 1)", "(lemma (x 1 2) (requires a))", "(lemma (x 1 2) f)", "(lemma (x 1) (requires a) f)", "(lemma (x 1 2) (ensures a) f)", "(lemma (x 1 2) (requires) f)", "(lemma (x 1 2) (requires a b) f)", "(lemma (x 1 2) a f)", "(lemma (x 1 2) (requires a) 1)", "(lemma (x 1 2) (requires a) (f))", "(lemma x (requires a) f)", "(lemma (result 1 2) (requires a) f)", "(lemma f () ())",
		"(calc)", "(calc 1 2)", "(calc 1 ())", "(calc 1 (=))", "(calc 1 (> 2))", "(calc 1 (+ 2))", "(calc 1 (= 2 3))", "(calc 1 (= 2 (by) (by)))", "(calc 1 (= 2 (leave)))", "(calc 1 (= 2 (by 1)))", "(calc (= 1))", "(calc 1 (2))", "(calc 1 (= (by)))",
		"(reveal)", "(reveal 1)", "(reveal f g)", "(reveal (f))", "(reveal result)", "(ghost 1)", "(ghost x)", "(ghost (field x int))", "(block x)", "(block ())", "(block (+ 1 2))",
	)
	asked(t, questions()[1], cases)
	for _, around := range []string{"(if a (@) ())", "(if a () (@))", "(while a () @)", "(case 1 (C () @))", "(assert a (by @))", "(label l @)", "(calc 1 (= 2 (by @)))", "(ghost @)", "(block (leave) @ (leave))"} {
		asked(t, questions()[1], within(around, cases[:16]))
	}
	for _, around := range []string{"(var x int @)", "(set x @)", "(store @ f 1)", "(store o f @)", "(new x C (f @))", "(call () f @)", "(send () @ m)", "(send () o m 1 @)", "(choose x @ 1 1)", "(choose x 1 @ 1)", "(choose x 1 1 @)",
		"(if @ () ())", "(while @ ())", "(while a ((invariant @)))", "(while a ((decreases 1 @)))", "(while a ((modifies @)))", "(case @ (C ()))", "(assert @)", "(assert @ (by))", "(assume @)", "(expect @)",
		"(each (x @ 1) (store o f 1))", "(each (x 1 1) (store o f @))", "(lemma (x 1 @) (requires 1) f)", "(lemma (x 1 1) (requires @) f)", "(lemma (x 1 1) (requires 1) f @)", "(calc @)", "(calc 1 (= @))", "(calc 1 (< @ (by)))"} {
		asked(t, questions()[1], allTold(api.ErrForm, strings.Replace(around, "@", "(foo)", 1), strings.Replace(around, "@", `"x"`, 1), strings.Replace(around, "@", "while", 1), strings.Replace(around, "@", "(leave)", 1)))
		asked(t, questions()[1], allTold(api.OK, strings.Replace(around, "@", "(if result this x)", 1)))
	}
}

// P4.1: reserved words are no names; of those result alone may be assigned.
func TestReservedInStmt(t *testing.T) {
	for _, w := range shape.Reserved() {
		want := api.ErrForm
		if w == "result" {
			want = api.OK
		}
		for _, s := range []string{"(set @ 1)", "(new @ C)", "(call (@) f)", "(call (x @ y) f)", "(send (@) o m)", "(choose @ 1 1 1)"} {
			asked(t, questions()[1], []told{{strings.Replace(s, "@", w, 1), want}})
		}
		for _, s := range []string{"(var @ int)", "(store o @ 1)", "(new x @)", "(new x C (@ 1))", "(call () @)", "(send () o @)", "(case 1 (@ ()))", "(case 1 (C (@)))", "(label @)", "(each (@ 1 1) (store o f 1))", "(lemma (@ 1 1) (requires 1) f)", "(lemma (x 1 1) (requires 1) @)", "(reveal @)"} {
			asked(t, questions()[1], allTold(api.ErrForm, strings.Replace(s, "@", w, 1)))
		}
	}
}

// P4.1: what stands twice in a statement, and the first error.
func TestTwiceInStmt(t *testing.T) {
	const twice = "(fn ((z int) (z int)) 1)"
	asked(t, questions()[1], allTold(api.ErrDup,
		"(call (x x) f)", "(call (x y x) f)", "(call (result result) f)", "(send (x x) o m)", "(send (y x x) o m)", "(case 1 (C (x x)))", "(case 1 (C (x)) (D (x y y)))",
		"(while a ((decreases) (decreases)))", "(while a ((decreases 1) (invariant a) (decreases 1)))", "(set x "+twice+")", "(block (block (set x "+twice+")))",
	))
	asked(t, questions()[1], allTold(api.OK,
		"(case 1 (C (x)) (C (x)))", "(new x C (f 1) (f 1))", "(while a ((invariant a) (invariant a) (modifies x) (modifies x)))", "(block (var x int) (var x int))",
		"(block (label l) (label l))", "(while a ((decreases)) (while a ((decreases))))",
	))
	asked(t, questions()[1], []told{
		{"(call (x x) f (foo))", api.ErrDup}, {"(call (x x) 1)", api.ErrForm}, {"(call (x x 1) f)", api.ErrForm}, {"(call (x) f (foo) " + twice + ")", api.ErrForm}, {"(call (x) f " + twice + " (foo))", api.ErrDup},
		{"(send (x x) (foo) m)", api.ErrDup}, {"(send (x x) o 1)", api.ErrForm}, {"(send () " + twice + " m (foo))", api.ErrDup},
		{"(case (foo) (C (x x)))", api.ErrForm}, {"(case 1 (C (x x) (foo)))", api.ErrDup}, {"(case 1 (C (x x) 1))", api.ErrDup}, {"(case 1 (C (x x)) (1 ()))", api.ErrDup}, {"(case 1 (C (x x)) 1)", api.ErrForm},
		// Behind the list of clauses, ahead of the statements.
		{"(while a ((decreases) (decreases)) (foo))", api.ErrDup}, {"(while a ((decreases) (decreases)) 1)", api.ErrDup}, {"(while a ((decreases) (decreases) (invariant)))", api.ErrForm}, {"(while a ((decreases) (decreases) (foo)))", api.ErrForm},
		{"(while (foo) ((decreases) (decreases)))", api.ErrForm}, {"(while a ((decreases " + twice + ") (foo)))", api.ErrDup},
		{"(store " + twice + " f (foo))", api.ErrDup}, {"(store " + twice + " 1 1)", api.ErrForm}, {"(if " + twice + " ((foo)) ())", api.ErrDup}, {"(if " + twice + " () 1)", api.ErrForm}, {"(if a ((foo)) ((set x " + twice + ")))", api.ErrForm},
		{"(new x C (f " + twice + ") (1 1))", api.ErrDup}, {"(new x C (f " + twice + ") 1)", api.ErrForm}, {"(block (set x " + twice + ") (foo))", api.ErrDup}, {"(block (foo) (set x " + twice + "))", api.ErrForm},
		{"(calc " + twice + " (> 1))", api.ErrDup}, {"(calc " + twice + " 1)", api.ErrForm}, {"(calc 1 (= " + twice + " 1))", api.ErrForm}, {"(calc 1 (= " + twice + " (foo)))", api.ErrDup},
		{"(lemma (x 1 " + twice + ") (ensures a) f)", api.ErrDup}, {"(lemma (x 1 " + twice + ") (requires a) 1)", api.ErrForm},
	})
}
