package shape_test

import (
	"strings"
	"testing"

	"plinth/api"
	"plinth/shape"
)

// exprs are expressions: of each head with as few and with more Kids.
var exprs = []string{
	"0", "-3", "1152921504606846976",
	"true", "false", "null", "this", "result",
	"x", "X", "x_1", "x1", "_x", "1a", "-x", "a-b", "..", "<>", "==", "ints", "True", "longer_than_any_name_may_be",
	"(+ 1 2)", "(- 1 2)", "(* 1 2)", "(div 1 2)", "(mod 1 2)", "(neg 1)", "(< 1 2)", "(<= 1 2)", "(= 1 2)",
	"(not a)", "(and)", "(and a)", "(and a b c)", "(or)", "(or a)", "(or a b c)", "(=> a b)", "(iff a b)", "(if a b c)",
	"(let (x 1) x)", "(let (x x) (let (x x) x))", "(pick (x 1 2) 3 4)", "(pick (x x x) x x)",
	"(match e (C () 1))", "(match e (C (x y) x) (D () 1))", "(match e (C () 1) (C () 2))", "(match e (x (x) x))",
	"(fn () 1)", "(fn ((x int)) x)", "(fn ((x int) (y (seq int))) x)", "(app f)", "(app f 1)", "(app (fn () 1) 1 2)",
	"(call f)", "(call f 1)", "(call f 1 2 3)", "(call f (of int))", "(call f (of int (seq a)) 1 2)",
	"(make C)", "(make C 1 2)", "(make C (of int))", "(make C (of a b) 1)", "(is C x)", "(get x y)",
	"(bits 1 0)", "(bits 16 3)", "(bits 1 1152921504606846976)", "(band a b)", "(bor a b)", "(bxor a b)", "(badd a b)", "(bnum a)",
	"(seq)", "(seq 1)", "(seq 1 2 3)", "(set)", "(set 1 1)", "(bag)", "(bag 1 1 1)", "(map)", "(map (1 2))", "(map (1 2) (1 2))",
	"(empty (seq int))", "(empty x)", "(empty ())", "(empty set)", "(empty (3 3))", "(imap 1 int)", "(imap x (3))",
	"(len s)", "(at s 1)", "(cat s s)", "(cut s 1 2)", "(put s 1 2)", "(in x s)", "(join a b)", "(meet a b)", "(less a b)", "(card a)", "(count x b)", "(look m k)", "(keys m)",
	"(all (x 1 2) a)", "(some (x 1 2) a)", "(every (x s) a)", "(any (x s) a)",
	"(forall ((x int)) a)", "(forall ((x int) (y int)) a)", "(forall ((x int)) (trigger x) a)", "(forall ((x int)) (trigger x y) (trigger 1) a)",
	"(exists ((x int)) a)", "(exists ((x int) (y T)) (trigger x) (trigger y) a)",
	"(old x)", "(old l x)", "(fresh c)", "(fuel 0 f x)", "(fuel 9 f (call f x))", "(prefix f 1)", "(prefix f n 1 2)",
}

// P4.1: what is an expression.
func TestExpr(t *testing.T) {
	asked(t, questions()[0], allTold(api.OK, exprs...))
	for _, s := range exprs {
		asked(t, questions()[0], allTold(api.OK, "(and 1 "+s+")", "(let (x "+s+") (seq "+s+" 1))", "(match 1 (C () "+s+"))"))
	}
}

// P4.1: heads that are none, other Kids than said, names that are none.
func TestNoExpr(t *testing.T) {
	cases := allTold(api.ErrForm,
		`""`, `"x"`, "()", "(())", "(1)", `("x" 1)`, "((neg 1))", "(x)", "(x 1)", "(f 1 2)", "(true)", "(this 1)", "(result)",
		// As many Kids as said.
		"(+)", "(+ 1)", "(+ 1 2 3)", "(- 1)", "(* 1)", "(div 1 2 3)", "(mod 1)", "(neg)", "(neg 1 2)", "(< 1)", "(< 1 2 3)", "(<= 1)", "(= 1)", "(= 1 2 3)",
		"(not)", "(not a b)", "(=> a)", "(=> a b c)", "(iff a)", "(iff a b c)", "(if a b)", "(if a b c d)", "(if)",
		"(bnum)", "(bnum a b)", "(band a)", "(bor a b c)", "(bxor a)", "(badd a b c)",
		"(len)", "(len s s)", "(at s)", "(at s 1 2)", "(cat s)", "(cat s s s)", "(cut s 1)", "(cut s 1 2 3)", "(put s 1)", "(put s 1 2 3)",
		"(in x)", "(in x s s)", "(join a)", "(join a b c)", "(meet a)", "(less a)", "(card)", "(card a b)", "(count b)", "(count x b b)", "(look m)", "(look m k k)", "(keys)", "(keys m m)",
		"(fresh)", "(fresh c c)",
		// let and pick.
		"(let)", "(let (x 1))", "(let (x 1) x x)", "(let x 1)", "(let 1 1)", "(let () 1)", "(let (x) 1)", "(let (x 1 2) 1)", "(let (1 1) 1)", "(let ((x) 1) 1)", "(let ((x 1)) x)",
		"(pick)", "(pick (x 1 2) 3)", "(pick (x 1 2) 3 4 5)", "(pick (x 1) 3 4)", "(pick (x 1 2 3) 4 5)", "(pick x 1 2)", "(pick (1 1 2) 3 4)",
		// match.
		"(match)", "(match e)", "(match e x)", "(match e ())", "(match e (C))", "(match e (C ()))", "(match e (C () 1 2))", "(match e (C x 1))", "(match e (C 1))", "(match e (1 () 1))",
		"(match e ((C) () 1))", "(match e (C (1) 1))", "(match e (C ((x)) 1))", "(match (C () 1))", "(match e (C () 1) x)", "(match e (C () 1) (D 1))", "(match e e (C () 1))",
		// fn and app.
		"(fn)", "(fn ())", "(fn () 1 2)", "(fn x 1)", "(fn (x) 1)", "(fn (x int) x)", "(fn ((x)) x)", "(fn ((x int int)) x)", "(fn ((1 int)) 1)", "(fn (((x) int)) 1)", "(fn ((x 1)) x)", `(fn ((x "int")) x)`, "(app)",
		// Calls, of, names of functions, CTORs, FIELDs.
		"(call)", "(call 1)", `(call "f")`, "(call (f))", "(call () f)", "(call (x) f 1)", "(call (of int) f)", "(call f (of))", "(call f (of 1))", `(call f (of "int"))`, "(call f (of int) (of int))", "(call f 1 (of int))",
		"(make)", "(make 1)", "(make (C) 1)", "(make C (of))", "(make C (of int 3) 1)", "(make C 1 (of int))", "(is C)", "(is C x x)", "(is 1 x)", "(is (C) x)", "(is x)", "(get x)", "(get x y z)", "(get 1 y)",
		"(is C (of int) x)", "(is C (of int))", "(get x (of int) y)", "(prefix f (of int) 1)", "(app f (of int))", "(app (of int) f)", "(of int)", "(+ (of int) 1)", "(and (of int))",
		// Bits.
		"(bits)", "(bits 3)", "(bits 3 1 1)", "(bits 0 0)", "(bits 17 0)", "(bits -1 0)", "(bits 3 -1)", "(bits x 1)", "(bits 3 x)", "(bits (neg 1) 1)", "(bits 3 (+ 1 1))",
		// Collections.
		"(map 1)", "(map 1 2)", "(map x)", "(map (1))", "(map (1 2 3))", "(map ())", "(map (1 2) 3)", "(map (1 2) (3))", "(empty)", "(empty 1)", `(empty "int")`, "(empty int int)", "(imap)", "(imap 1)", "(imap 1 2)", `(imap 1 "int")`, "(imap 1 int int)",
		// Quantifiers.
		"(all)", "(all (x 1 2))", "(all (x 1 2) a a)", "(all (x 1) a)", "(all (x 1 2 3) a)", "(all x a)", "(all (1 1 2) a)", "(some (x s) a)", "(some (x 1 2))", "(every (x 1 2) a)", "(every (x) a)", "(every (x s))", "(every (1 s) a)", "(every x a)", "(any (x 1 2) a)", "(any (x s) a a)", "(any s a)",
		"(forall)", "(forall ((x int)))", "(forall () a)", "(forall x a)", "(forall (x int) a)", "(forall (x) a)", "(forall ((x)) a)", "(forall ((x 1)) a)", "(forall ((1 int)) a)", "(forall ((x int)) a a)", "(forall ((x int)) (trigger) a)", "(forall ((x int)) a (trigger x))",
		"(forall ((x int)) (trigger x))", "(forall ((x int)) x (trigger x) a)", "(forall ((x int)) (triggers x) a)", "(forall (trigger x) ((x int)) a)", "(exists () a)", "(exists ((x int)))", "(exists ((x int)) (trigger) a)", "(trigger x)",
		// old, fuel, prefix.
		"(old)", "(old 1 x)", "(old (l) x)", "(old l x y)", "(old while)", "(fuel 1)", "(fuel 1 f)", "(fuel 1 x x x)", "(fuel -1 f x)", "(fuel 10 f x)", "(fuel x f x)", "(fuel f 1 x)", "(fuel 1 1 x)", "(fuel 1 (f) x)", "(prefix)", "(prefix f)", "(prefix 1 1)", "(prefix (f) 1)",
	)
	asked(t, questions()[0], cases)
	for _, around := range []string{"(neg @)", "(let (x @) x)", "(let (x 1) @)", "(seq 1 @)", "(map (@ 1))", "(map (1 2) (1 @))", "(imap @ int)", "(match 1 (C () @))", "(match @ (C () 1))",
		"(pick (x @ 1) 1 1)", "(pick (x 1 @) 1 1)", "(fn () @)", "(app @)", "(app f 1 @)", "(call f @)", "(call f (of a) @)", "(make C 1 @)", "(is C @)", "(get f @)", "(prefix f @)", "(prefix f 1 @)",
		"(all (x @ 1) 1)", "(any (x @) 1)", "(forall ((x int)) (trigger @) 1)", "(exists ((x int)) @)", "(old l @)", "(fuel 1 f @)"} {
		asked(t, questions()[0], within(around, cases[:14]))
		asked(t, questions()[0], allTold(api.ErrForm, strings.Replace(around, "@", "while", 1)))
		asked(t, questions()[0], allTold(api.OK, strings.Replace(around, "@", "(if result this x)", 1)))
	}
}

// P4.1: a word as an expression is any that is not reserved, and true, false,
// null, this and result; a name is not reserved, result neither.
func TestReservedWords(t *testing.T) {
	for _, w := range shape.Reserved() {
		want := api.ErrForm
		switch w {
		case "true", "false", "null", "this", "result":
			want = api.OK
		}
		asked(t, questions()[0], []told{{w, want}, {"(seq " + w + ")", want}})
		asked(t, questions()[0], allTold(api.ErrForm,
			"(let ("+w+" 1) 1)", "(pick ("+w+" 1 2) 1 1)", "(all ("+w+" 1 2) 1)", "(every ("+w+" 1) 1)", "(fn (("+w+" int)) 1)", "(forall (("+w+" int)) 1)",
			"(match 1 ("+w+" () 1))", "(match 1 (C ("+w+") 1))", "(call "+w+")", "(make "+w+")", "(is "+w+" 1)", "(get "+w+" 1)", "(prefix "+w+" 1)", "(fuel 1 "+w+" 1)", "(old "+w+" 1)"))
		asked(t, questions()[0], allTold(api.OK, "(empty "+w+")", "(imap 1 "+w+")", "(fn ((x "+w+")) 1)", "(call f (of "+w+"))"))
	}
}

// P4.1: two variables of one list, and no other ones.
func TestTwiceInExpr(t *testing.T) {
	asked(t, questions()[0], allTold(api.ErrDup,
		"(fn ((x int) (x int)) 1)", "(fn ((x int) (y int) (x bool)) 1)", "(forall ((x int) (x int)) 1)", "(exists ((y int) (x int) (x int)) (trigger x) 1)",
		"(match 1 (C (x x) 1))", "(match 1 (C (x) 1) (D (x y x) 1))", "(neg (neg (fn ((x int) (x int)) 1)))", "(map (1 2) (3 (fn ((x int) (x int)) 1)))",
	))
	asked(t, questions()[0], allTold(api.OK,
		"(fn ((x int)) (fn ((x int)) x))", "(match 1 (C (x) 1) (D (x) 1) (C (C D) 1))", "(forall ((x int)) (exists ((x int)) x))", "(let (x 1) (let (x 2) x))",
		"(map (1 1) (1 1))", "(set 1 1)", "(call f (of a a))",
	))
}

// P4.1: the first error, outside ahead of inside, from the front; of what is
// twice behind all that stands in its list.
func TestFirstOfExpr(t *testing.T) {
	const twice = "(fn ((z int) (z int)) 1)"
	asked(t, questions()[0], []told{
		{"(+ (foo) " + twice + ")", api.ErrForm}, {"(+ " + twice + " (foo))", api.ErrDup}, {"(+ " + twice + " while)", api.ErrDup}, {`(+ ` + twice + ` "x")`, api.ErrDup},
		{"(+ " + twice + " 1 2)", api.ErrForm}, {"(neg " + twice + " 1)", api.ErrForm}, {"(foo " + twice + ")", api.ErrForm},
		{"(let (x " + twice + ") (foo))", api.ErrDup}, {"(let (x (foo)) " + twice + ")", api.ErrForm}, {"(let (1 " + twice + ") 1)", api.ErrForm},
		// Behind the list of variables, ahead of what follows it.
		{"(fn ((x int) (x int) (x 3)) 1)", api.ErrForm}, {"(fn ((x int) (x int) 3) 1)", api.ErrForm}, {"(fn ((x int) (x int)) (foo))", api.ErrDup}, {"(fn ((x int) (x int)) 1 2)", api.ErrForm},
		{"(match 1 (C (x x 1) 1))", api.ErrForm}, {"(match 1 (C (x x) (foo)))", api.ErrDup}, {"(match 1 (C (x x) 1 2))", api.ErrForm}, {"(match 1 (C (x x) 1) (1 () 1))", api.ErrDup}, {"(match 1 (C (x x) 1) 3)", api.ErrForm},
		{"(match (foo) (C (x x) 1))", api.ErrForm}, {"(match " + twice + " (C () (foo)))", api.ErrDup},
		{"(forall ((x int) (x int)) (trigger) 1)", api.ErrDup}, {"(forall ((x int)) (trigger " + twice + ") (foo))", api.ErrDup}, {"(forall ((x int)) (trigger (foo)) " + twice + ")", api.ErrForm},
		{"(imap " + twice + " 3)", api.ErrForm}, {"(imap " + twice + " int)", api.ErrDup}, {"(map (" + twice + " 1) (1))", api.ErrDup}, {"(map (" + twice + " 1) 1)", api.ErrForm},
		{"(call 1 " + twice + ")", api.ErrForm}, {"(fuel 10 f " + twice + ")", api.ErrForm},
	})
}

// P4.1: a form that is not valid is ErrArg, whatever else is wrong.
func TestNotValid(t *testing.T) {
	for name, f := range hostile() {
		for _, g := range []api.Form{f, list(word("neg"), f), list(word("foo"), f), list(num(1), f), list(word("set"), word("x"), f), list(word("sub"), f)} {
			for _, q := range questions() {
				if err := q.ask(g); err != api.ErrArg {
					t.Errorf("%s of %s: error %d", q.name, name, err)
				}
			}
			if kids, err := shape.Kids(g); err != api.ErrArg || len(kids) > 0 {
				t.Errorf("Kids of %s: %v, error %d", name, kids, err)
			}
		}
	}
	for name, f := range map[string]api.Form{
		"the deepest form":         nest(api.MaxDeep-1, "neg", num(1)),
		"the form with most parts": repeat("and", api.MaxForm-2, word("x")),
	} {
		if err := shape.Expr(f); err != api.OK {
			t.Errorf("Expr of %s: error %d", name, err)
		}
	}
}
