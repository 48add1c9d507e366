package typing_test

import (
	"strings"
	"testing"

	"plinth/api"
	"plinth/typing"
)

// signed takes the signs out of a text, and tells the error of the first one: @
// ErrName, ^ ErrRange, % ErrType.
func signed(s string) (string, api.Errno) {
	want := api.OK
	if at := strings.IndexAny(s, "@^%"); at >= 0 {
		want = map[byte]api.Errno{'@': api.ErrName, '^': api.ErrRange, '%': api.ErrType}[s[at]]
	}
	return strings.NewReplacer("@", "", "^", "", "%", "").Replace(s), want
}

// P8.1: the first thing that is wrong, from the front, inside ahead of outside. A
// sign stands where something wrong is asked.
func TestOrder(t *testing.T) {
	p, vars := forms(world), varsOf(locals)
	for _, c := range []string{
		"(+ (bits^ 1 2) @x)", "(+ @x (bits^ 1 2))", "(+ b @x)%", "(+ b (bits^ 1 2))%", "(+ (+ b 1)% @x)", "(+ (neg b)% (bits^ 1 2))", "(and 1 @x b)%", "(= b (+ 1 @x))%", "(if 1 @x 2)%", "(if 1 2 (bits^ 1 2))%", "(if 1 (+ b 1)% @x)", "(seq 1 b @x)%", "(set f (bits^ 2 4))%", "(map (1 b) (b @x))%", "(map (@x (+ b 1)%))", "(map ((+ b 1)% @x) (@x 1))",
		"(let (x (+ b 1)%) @y)", "(let (x b) (+ x (bits^ 1 2))%)", "(pick (x b (bits^ 1 2))% b x)", "(pick (x b @y)% b x)", "(pick (x b 1)% @y x)", "(pick (x 0 1) 1% @y)", "(pick (x 0 1) (+ 1 @y)% x)", "(pick (x 0 1) (+ b 1)% @y)", "(pick (x 0 b)% 1% (bits^ 1 2))", "(all (x b 1)% @y)", "(all (x b @y)% b)", "(some (x 0 b)% (bits^ 1 2))", "(every (x 1)% @y)", "(any (x @y) (bits^ 1 2))",
		"(match @x (@Zero () 1))", "(match 1% (One () @x))", "(match e (One () @x) (@Nil () 1))", "(match e (@Zero () @x))", "(match e (One (x)% @y))", "(match e (Nil ()% @y))", "(match e (One () 1) (Two (x y) b)% )", "(match e (One () 1) (Two (x)% @y))", "(match li (Nil () (+ b 1)%) (Cons (x)% 1))", "(match e (One () 1) (Two (x y) (+ b 1)%))%",
		"(fn ((x nowhere)%) @y)", "(fn ((x int) (y L)%) (bits^ 1 2))", "(forall ((x L)%) (trigger @y) b)", "(forall ((x int)) (trigger @y) 1)%", "(forall ((x int)) (trigger (+ b 1)%) @y)", "(exists ((x int)) (+ 1 @y)%)", "(app 1 @x)%", "(app f b @x)%", "(app f b (bits^ 1 2))%", "(app @x b)%",
		"(call @nowhere @x)", "(call @m (bits^ 1 2))", "(call @nowhere (of nowhere)% 1)", "(call id (of nowhere)% @x)", "(call id (of int bool) @x)%", "(call id @x 1)%", "(call two (bits^ 1 2))%", "(call both 1 (+ b @x))%", "(call both 1 b (bits^ 1 2))%", "(call lost (+ 1 b)%)%", "(call up b (bits^ 1 2))%", "(call pr @x @x)%", "(make @Zero @x)", "(make @Zero (of nowhere)%)", "(make Cons (of nowhere)% @x 1)%", "(make Cons 1 @x)%", "(make Two b (bits^ 1 2))%", "(make Nil (of int bool) (bits^ 1 2))%",
		"(prefix @pr (bits^ 1 2))", "(prefix lst b @x)%", "(prefix lst (bits^ 1 2) @x)", "(prefix lst b b)%", "(is Zero 1)@%", "(is Zero (+ b 1)%)@", "(is Zero (bits^ 1 2))@", "(is Nil @x)%", "(get zero (+ b 1)%)@", "(get zero (bits^ 1 2))@", "(get zero 1)@%", "(get head @x)%", "(fuel 1 nowhere (+ b 1)%)@", "(fuel 1 up (bits^ 1 2))%", "(fuel 1 m @x)@", "(old (+ b 1)%)",
		"(imap @x nowhere)%", "(imap (bits^ 1 2) nowhere)%", "(imap (+ b 1)% nowhere)%", "(empty nowhere)%", "(at 1 @x)%", "(at q (+ b (bits^ 1 2))%)", "(cat q @x)%", "(cut 1 b @x)%", "(put 1 b (bits^ 1 2))%", "(in @x 1)%", "(in b (+ 1 @x)%)", "(join 1 @x)%", "(less h @x)%", "(look 1 (bits^ 1 2))%", "(count @x 1)%", "(fresh (+ b 1)%)%", "(len (bits^ 1 2))%", "(bits^ 1 2)",
		"(or (let (x 1) @y) (bits^ 1 2))", "(fn ((x int)) (fn ((y bool)) (+ x y)%))", "(not (not (not @x)))%", "(iff (all (x 0 1) x)% @y)", "(=> (get head li) (bits^ 1 2))%", "(- (get zero li)@ b)%", "(get bx (get x (get o c)))%", "(get now (get next 1)%)",
	} {
		e, want := signed(c)
		if got := told(typing.Type(p, vars, "C", form(e))); got != failed(want) {
			t.Errorf("Type %s: %s", c, got)
		}
		// The same within others, which do not ask ahead of it.
		for _, around := range []string{"(+ b ?)", "(if ? 1 b)", "(let (x ?) @y)", "(seq ? @x)", "(make Two ? 1)", "(match ? (Zero () 1))", "(fuel 2 nowhere ?)", "(every (x ?) @y)", "(call up ? @x)", "(get zero ?)"} {
			e, _ := signed(strings.Replace(around, "?", c, 1))
			if got := told(typing.Type(p, vars, "C", form(e))); got != failed(want) {
				t.Errorf("Type %s in %s: %s", c, around, got)
			}
		}
	}
}

// P8.1: in statements and declarations likewise.
func TestOrderOfStatements(t *testing.T) {
	for _, c := range []string{
		"(set i (+ b 1)%) (set i (bits^ 1 2))", "(set i b)% (set b (= w (bits^ 3 8)))", "(set b (= w (bits^ 3 8)))% (set i b)%", "(var x int b)% (assert (= (bits^ 1 2) w))", "(var x bool (= (bits^ 1 2) (bits 1 1))) (set x 1)%",
		"(if 1 ((assert (= w (bits^ 3 8)))) ())%", "(if 1 () ((set i b)%) )", "(while 1 ((invariant (= w (bits^ 3 8)))) (set i b)%)%", "(while 1 ((invariant 1)% (decreases f)%) (assert (= w (bits^ 3 8))))%", "(while b ((decreases f)%) (assert (= w (bits^ 3 8))))", "(while b ((decreases (bits^ 3 8) f)%) (set i b)%)",
		"(assert 1 (by (assert (= w (bits^ 3 8)))))%", "(case 1% (One () (assert (= w (bits^ 3 8)))))", "(case e (One () (assert (= w (bits^ 3 8)))) (Two (x)%))", "(case e (One () (set i b)%) (Two (x y) (assert (= w (bits^ 3 8)))))", "(calc 1 (= b)% (= (bits^ 3 8)))", "(calc i (< 1 (by (assert (= w (bits^ 3 8))))) (= b)%)",
		"(store 1 x (= w (bits^ 3 8)))%", "(store c x (= w (bits^ 3 8)))%", "(store c d (neg b)%)", "(new c C (x b) (o (bits^ 3 8)))%", "(new c C (x (neg b)%) (o (bits^ 3 8)))", "(call (i) m (bits^ 3 8))%", "(call () m (neg b)% (bits^ 3 8))", "(send () 1 cl% (bits^ 3 8))", "(send () t cm% (bits^ 3 8))", "(send () c cm (bits^ 3 8))%", "(choose i b (bits^ 3 8) b)%", "(choose b 0 1 (= w (bits^ 3 8)))%", "(each (x b 1)% (store c x (bits^ 3 8)))", "(each (x 0 1) (store 1 x (bits^ 3 8))%)", "(lemma (x b 1)% (requires (bits^ 3 8)) lm x)", "(lemma (x 0 1) (requires 1)% lm (bits^ 3 8))", "(lemma (x 0 1) (requires b) lm b (bits^ 3 8))%",
	} {
		s, want := signed(c)
		p := forms(world + "(method q ((f (fun (int) int)) (e E) (w (bits 3)) (u U)) ((i int) (b bool) (c C) (t T)) (body " + s + "))")
		if got := checked(p); got != "q "+failed(want) {
			t.Errorf("Check %s: %s", c, got)
		}
	}
	for _, c := range []string{
		"(method q () () (requires 1)% (ensures (= 1 (bits^ 1 2))))", "(method q () () (ensures (= 1 (bits^ 1 2))) (requires 1)%)", "(method q () () (ensures (bits^ 1 2)) (body (assert 1)%))", "(function q () int (ensures (= (bits^ 1 2) (bits 1 1))) true%)", "(function q () int (requires 1)% (bits^ 1 2))", "(function q () int (by (set result true)%) (bits^ 1 2))", "(function q () int (reads (bits^ 1 2)) (decreases (fn () 1))%)", "(sub q (n int) n% (bits^ 1 2))", "(sub q (n int) (= (bits^ 1 2) (bits 1 1)) true%)",
		"(class q () (function f () int true)% (method m () () (requires (bits^ 1 2))))", "(class q () (function f () int (bits^ 1 2)) (predicate g () 1)%)", "(class q (T) (function f () (bits 1) (bits^ 1 2)))%", "(class q (T) (function f () int true)%)", "(trait q () (method m () () (body (expect (bits^ 1 2)))) (lemma l () () (ensures 1)%))",
	} {
		s, want := signed(c)
		if got := checked(forms(world + s)); got != "q "+failed(want) {
			t.Errorf("Check %s: %s", c, got)
		}
	}
}

// P8.1: the first declaration that has an error, in the order of the program,
// and scope's errors ahead of all.
func TestOrderOfDeclarations(t *testing.T) {
	for p, want := range map[string]string{
		"(function f () int 1) (function g () int true) (method h () () (body (assert (bits 1 2))))": "g error 8",
		"(method h () () (body (assert (= (bits 1 2) 1)))) (function g () int true)":                 "h error 5",
		"(function g () int true) (function h () int x)":                                             "h error 6",
		"(function g () int true) (method g () ())":                                                  "g error 7",
		"(function g () int true) (trait B (B))":                                                     "B error 11",
		"(function g () int true) (function h () int (+ 1))":                                         " error 4",
		"(function g () int true) (function h () L 1)":                                               "h error 6",
		"(ghost (function g () int true)) (function f () int false)":                                 "g error 8",
		"(data D () (X)) (codata S () (Y)) (trait T ()) (extern e () ())":                            "OK",
		"": "OK",
	} {
		if got := checked(forms(p)); got != want {
			t.Errorf("Check %s: %s, not %s", p, got, want)
		}
	}
	var many []api.Form
	for range 201 {
		many = append(many, form("(function g () int true)"))
	}
	if got := checked(many); got != " error 1" {
		t.Errorf("Check of too many: %s", got)
	}
	bad := api.Form{Kind: 7}
	if got := checked([]api.Form{bad}); got != " error 1" {
		t.Errorf("Check of a form that is not valid: %s", got)
	}
}
