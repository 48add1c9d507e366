package inhabit_test

import (
	"strconv"
	"strings"
	"testing"

	"plinth/api"
	"plinth/inhabit"
	"plinth/scope"
	"plinth/typing"
)

// tools are data and codata that stand in tests of others. Of the arguments of
// Neg, Turn the sign is -, of Twice +, of Both 2; those of Shut stand in a set; a
// Ghost has nothing of its argument.
const tools = `(data L (a) (Nil) (Cons (head a) (tail (L a)))) (data Box (a) (MkBox (held a))) (data Neg (a) (MkNeg (f (fun (a) int)))) (data Twice (a) (MkTwice (f (Neg (Neg a))))) (data Both (a) (MkBoth (f (fun (a) a))))
	(data Shut (a) (eq a) (MkShut (s (set a)))) (data Ghost (a) (MkGhost (n int))) (codata S (a) (More (now a) (next (S a)))) (codata Turn (a) (MkTurn (f (fun (a) int)) (t (Turn (seq a)))))
	(data Two (a b) (MkTwo (x a) (f (fun (b) (Two a b)))) (NoTwo)) (class C () (field d D)) (trait T ()) (sub nat (n int) (<= 0 n) 0) `

// around are declarations of D, in which a type stands in a field: as it is, in a
// subset type, and in the field of other data.
func around(field string) []string {
	value := " true (look (empty (map int " + field + ")) 0))"
	return []string{
		"(data D () (D0) (D1 (v int) (d " + field + ") (w bool)))", "(data D () (D1 (d " + field + ")) (D0)) ",
		"(sub sub1 (x " + field + ")" + value + " (data D () (D0) (D1 (d sub2))) (sub sub2 (x sub1)" + value,
		"(data D () (D0) (D1 (b (Box (seq D2))))) (data D2 () (Of2 (x int)) (Of3 (d " + field + ")))",
	}
}

// P9.1: data stand within themselves only where they may. In each row stands what
// D has in a field.
func TestPositive(t *testing.T) {
	for _, row := range []struct {
		want   string
		fields []string
	}{
		{"OK", []string{
			"int", "D", "(seq D)", "(map int D)", "(seq (map bool (seq D)))", "(maybe C)", "(set (maybe C))", "C", "(fun (C) C)", "(fun (T) D)", "(fun () D)", "(fun (int) (seq D))", "(fun (int) (fun (bool) D))", "(fun ((fun (D) int)) int)", "(fun ((fun (D int) bool) (seq (fun (D) int))) D)",
			"(fun ((fun ((fun (int) D)) int)) D)", "(fun ((fun ((fun ((fun (D) int)) int)) int)) int)", "(fun ((map int (fun ((seq D)) int))) int)", "(L D)", "(L (L D))", "(Box (seq D))", "(S D)", "(S (L D))", "(fun (int) (S D))", "(Neg (Neg D))", "(Neg (Neg (Neg (Neg D))))", "(Twice D)", "(Twice (Twice D))", "(fun ((Neg D)) int)", "(Neg (fun (D) int))", "(Neg (fun (int D) C))", "(fun ((Turn D)) D)", "(Turn (Turn D))",
			"(Two D int)", "(Two (seq D) (Neg D))", "(Two D (fun (D) int))", "(Ghost D)", "(Neg (Ghost D))", "(fun ((Ghost D)) int)", "(set (Ghost D))", "(imap int (Ghost (seq D)))", "(Shut (Ghost D))", "(map (Ghost D) D)", "(imap nat int)", "(set (L int))", "(Shut nat)", "(Neg int)", "(Both (Ghost D))", "(Ghost (Both D))", "(Ghost (Shut D))", "(fun (int (maybe C)) (L (Box D)))",
		}},
		{"D error 8", []string{
			"(fun (D) int)", "(fun (int D) int)", "(fun (D) D)", "(fun ((seq D)) int)", "(fun ((map int D)) int)", "(seq (fun (D) int))", "(map int (fun (D) int))", "(fun (int) (fun (D) int))", "(fun ((fun (int) D)) int)", "(fun ((fun ((fun (D) int)) int)) int)", "(fun ((fun (D) D)) int)", "(fun ((fun (D) D)) D)",
			"(Neg D)", "(Neg (seq D))", "(Neg (Neg (Neg D)))", "(Neg (Twice D))", "(Twice (Neg D))", "(Both D)", "(Both (Both D))", "(Both (Neg D))", "(L (Neg D))", "(Neg (L D))", "(fun ((L D)) int)", "(fun ((Twice D)) int)", "(Turn D)", "(Turn (Twice D))", "(fun ((Turn (Turn D))) int)", "(S (Neg D))", "(fun ((S D)) int)", "(Two int D)", "(Two D D)", "(Two (Neg D) int)", "(Two int (Neg (Neg D)))",
			"(set D)", "(bag D)", "(imap int D)", "(imap D int)", "(map D int)", "(map D D)", "(set (seq D))", "(seq (set D))", "(bag (bag D))", "(map (seq D) int)", "(map int (set D))", "(imap (L D) int)", "(imap int (L D))", "(set (L D))", "(set (Box D))", "(L (set D))", "(map (map int D) int)", "(fun (int) (set D))", "(fun (int) (imap int D))", "(fun ((fun ((set D)) int)) int)", "(imap int (fun (int) D))",
			"(Shut D)", "(Shut (seq D))", "(seq (Shut D))", "(L (Shut D))", "(Shut (L D))", "(Box (Shut (Box D)))", "(Twice (Shut D))", "(S (Shut D))", "(Neg (Neg (Shut D)))", "(Neg (Neg (set D)))", "(set (Shut D))",
		}},
	} {
		for _, field := range row.fields {
			for _, s := range around(field) {
				if got := checked(forms(tools + s)); got != row.want {
					t.Errorf("Check %s: %s, not %s", s, got, row.want)
				}
				if got := checked(forms(s + tools)); got != row.want {
					t.Errorf("Check %s ahead: %s, not %s", s, got, row.want)
				}
			}
		}
	}
}

// P9.1: what stands between data that stand in each other counts, and each name is
// asked for itself, in the program's order.
func TestPositiveCircles(t *testing.T) {
	for _, c := range []struct{ p, want string }{
		{"(data A () (A0) (A1 (b B))) (data B () (B0) (B1 (a A)))", "OK"},
		{"(data A () (A0) (A1 (b (fun (B) int)))) (data B () (B0) (B1 (a A)))", "A error 8"},
		{"(data B () (B0) (B1 (a A))) (data A () (A0) (A1 (b (fun (B) int))))", "B error 8"},
		{"(data A () (A0) (A1 (b (fun (B) int)))) (data B () (B0) (B1 (a (fun (A) int))))", "OK"},
		{"(data A () (A0) (A1 (b (fun (B) int)))) (data B () (B0) (B1 (c (fun (G) int)))) (data G () (G0) (G1 (a (fun (A) int))))", "A error 8"},
		{"(data A () (A0) (A1 (b (fun (B) int)) (c B))) (data B () (B0) (B1 (a (fun (A) int))))", "A error 8"},
		{"(data A () (A0) (A1 (b (set B)))) (data B () (B0) (B1 (a A)))", "A error 8"},
		{"(data B () (B0) (B1 (a A))) (data A () (A0) (A1 (b (set B))))", "B error 8"},
		{"(data A () (A0) (A1 (b (map B int)))) (data B () (B0) (B1 (a (seq A))))", "A error 8"},
		{"(data A () (A0) (A1 (b (imap int B)))) (data B () (B0) (B1 (a (fun (int) A))))", "A error 8"},
		{"(data A () (A0) (A1 (b (set B)))) (data B () (B0) (B1 (x int)))", "OK"},
		{"(data A () (A0) (A1 (b (fun (B) int)))) (data B () (B0) (B1 (b B)))", "OK"},
		// A is led through a circle that turns it, or closes it.
		{"(data A () (A0) (A1 (b B))) (data B () (B0) (B1 (a A) (b (fun (B) int))))", "A error 8"},
		{"(data A () (A0) (A1 (b B))) (data B () (B0) (B1 (a A) (b (set B))))", "A error 8"},
		{"(data A () (A0) (A1 (b B) (x int))) (data B () (B0) (B1 (b (set B))))", "B error 8"},
		{"(data A () (A0) (A1 (b (set B)))) (data B () (B0) (B1 (b (fun (B) int))))", "B error 8"},
		{"(data A () (A0) (A1 (a (fun (G) int)) (b B))) (data B () (B0) (B1 (c G))) (data G () (G0) (G1 (x int)))", "OK"},
		// Codata are asked, too, and stand between.
		{"(codata A () (A1 (n int) (a A)))", "OK"}, {"(codata A () (A1 (f (fun (int) A))))", "OK"}, {"(codata A () (A1 (f (fun (A) int))))", "A error 8"}, {"(codata A () (A1 (m (imap int A))))", "A error 8"}, {"(codata A () (A1 (m (map int A)) (f (fun ((fun (A) int)) A))))", "OK"},
		{"(codata A () (A1 (b B))) (data B () (B1 (f (fun (A) int))))", "A error 8"}, {"(data B () (B1 (f (fun (A) int)))) (codata A () (A1 (b B)))", "B error 8"}, {"(data B () (B1 (m (imap int A)))) (codata A () (A1 (b (seq B))))", "B error 8"},
		{"(codata A (a) (A1 (n a) (f (fun ((A a)) a))))", "A error 8"}, {"(codata A (a) (A1 (n a) (f (fun ((A int)) a))))", "A error 8"}, {"(data A (a) (eq a) (A0) (A1 (f (set (A int)))))", "A error 8"},
		// Arguments stand where the variables stand, also those of the data itself.
		{"(data A (a) (A0 (x a)) (A1 (n (A (fun (a) int)))))", "OK"},
		{"(data A (a) (A0 (x a)) (A1 (n (A (fun ((A a)) int)))))", "A error 8"},
		{"(data A (a) (A0) (A1 (n (A (fun ((A a)) int)))))", "OK"}, // a stands nowhere
		{"(data A (a) (A0 (x int)) (A1 (n (A (A a)))))", "OK"},
		{"(data A (a) (A0 (x a)) (A1 (n (A (A a)))))", "OK"},
		{"(data A (a) (A0 (f (fun (a) int))) (A1 (n (A (A a)))))", "A error 8"},
		{"(data A (a b) (A0 (x a)) (A1 (n (A b a))) (A2 (f (fun (b) int))))", "OK"},
		{"(data A (a b) (A0 (x a)) (A1 (n (A b a))) (A2 (f (fun (b) int)))) (data D () (D0) (D1 (d (A int D))))", "D error 8"},
		{"(data A (a b) (A0 (x a)) (A1 (n (A b a)))) (data D () (D0) (D1 (d (A int D))))", "OK"},
		{"(data A (a b) (eq a) (A0 (x (set a))) (A1 (n (A int a)) (y b))) (data D () (D0) (D1 (d (A int D))))", "OK"},
		{"(data A (a b) (eq a b) (A0 (x (set a))) (A1 (n (A b a)) (y b))) (data D () (D0) (D1 (d (A int D))))", "D error 8"},
		{"(data E (e) (E1 (f (F (seq e))))) (data F (f) (F1 (g (G f)))) (data G (g) (G1 (h (fun (g) int)))) (data D () (D0) (D1 (e (E D))))", "D error 8"},
		{"(data G (g) (G1 (h (fun (g) int)))) (data F (f) (F1 (g (G f)))) (data E (e) (E1 (f (F (G e))))) (data D () (D0) (D1 (e (E D))))", "OK"},
		// Classes and callable declarations lead nowhere.
		{"(class C () (field d D) (field e (set D))) (data D () (D0) (D1 (c C) (f (fun (C) int)) (s (set C)) (m (imap int (maybe C)))))", "OK"},
		{"(data D () (D0) (D1 (n int))) (function f ((g (fun (D) int)) (s (set D))) D (make D0))", "OK"},
		{"(sub s (d D) (= d (make D0)) (make D0)) (data D () (D0) (D1 (d s)) (D2 (f (fun (int) s))))", "OK"},
		{"(sub s (d D) true (make D0)) (data D () (D0) (D1 (d s)) (D2 (f (fun (s) int))))", "D error 8"},
		{"(sub s (d (set D)) true (empty (set D))) (data D () (D0) (D1 (d s)))", "D error 8"},
		{"", "OK"}, {"(class C ()) (trait T ()) (method m () ())", "OK"},
	} {
		if got := checked(forms(c.p)); got != c.want {
			t.Errorf("Check %s: %s, not %s", c.p, got, c.want)
		}
	}
}

// P9.1: data must be founded. In each row stands what D has in the field of its
// one CTOR.
func TestNotFounded(t *testing.T) {
	const more = tools + "(data Or (a b) (Left (x a)) (Right (y b))) (data Wrap (a) (W1 (b (Box a))) (W2 (o (Or a a)))) (data Non (a) (N1 (n (Non (seq a)))) (N2 (x a))) (data Grow (a) (G1 (n (Grow (Box a)))) (G2 (x a))) (data Rose (a) (MkRose (top a) (kids (L (Rose a)))))"
	for _, row := range []struct {
		want   string
		fields []string
	}{
		{"OK", []string{
			"int", "bool", "(bits 3)", "(seq D)", "(map int D)", "(fun () D)", "(fun (int) D)", "(seq (Box D))", "(maybe C)", "C", "T", "nat", "(L D)", "(S D)", "(S (Box D))", "(Ghost D)", "(Or D int)", "(Or int D)", "(Or (Box D) (seq D))", "(Wrap int)", "(Wrap (seq D))", "(Non D)", "(Grow int)", "(Grow (L D))", "(Box (Box (L D)))", "(Rose int)", "(Rose (L D))", "(imap int int)", "(imap int (seq int))", "(Box (imap int bool))", "(set (set int))", "(bag nat)", "(Two D int)",
		}},
		{"D error 3", []string{"D", "(Box D)", "(Box (Box D))", "(Or D D)", "(Or (Box D) D)", "(Wrap D)", "(Wrap (Box D))", "(Grow D)", "(Rose D)", "(Rose (Box D))", "(Or (Rose D) (Grow (Box D)))", "(Box (Rose (Or D D)))"}},
	} {
		for _, field := range row.fields {
			for _, s := range around(field) {
				s = strings.ReplaceAll(strings.ReplaceAll(strings.ReplaceAll(s, "(D0)", "(D0 (d D))"), "(seq D2)", "D2"), "(Of2 (x int))", "")
				if got := checked(forms(s + more)); got != row.want {
					t.Errorf("Check %s: %s, not %s", s, got, row.want)
				}
				if got := checked(forms(more + s)); got != row.want {
					t.Errorf("Check %s behind: %s, not %s", s, got, row.want)
				}
			}
		}
	}
}

// P9.1: founded is told by rounds, and of data alone.
func TestFoundedRounds(t *testing.T) {
	for _, c := range []struct{ p, check, founded string }{
		{"(data T () (Leaf) (Node (l T) (r T)))", "OK", "T"},
		{"(data T () (Node (l T) (r T)))", "T error 3", ""},
		{"(data A () (A1 (b B))) (data B () (B1 (a A)))", "A error 3", ""},
		{"(data B () (B1 (a A))) (data A () (A1 (b B)))", "B error 3", ""},
		{"(data A () (A1 (b B))) (data B () (B1 (a A)) (B2 (g G))) (data G () (G1 (n int)))", "OK", "A B G"},
		{"(data A () (A1 (b B))) (data B () (B1 (g G))) (data G () (G1 (a A)) (G2 (x X))) (data X () (X1 (x X)))", "A error 3", ""},
		{"(data A () (A1 (x X))) (data X () (X1 (x X))) (data B () (B1))", "A error 3", "B"},
		{"(data B () (B1)) (data A () (A1 (x X)) (A2)) (data X () (X1 (x X)))", "X error 3", "A B"},
		{"(codata S () (S1 (s S)))", "OK", ""}, {"(codata S () (S1 (d D))) (data D () (D1 (s S)))", "OK", "D"}, {"(codata S () (S1 (d D))) (data D () (D1 (d D)))", "D error 3", ""},
		{"(data D (a) (D1 (x a)))", "OK", "D"}, {"(data D (a) (D1 (x a) (d (D a))))", "D error 3", ""}, {"(data D (a) (D1 (x a) (d (D int))))", "D error 3", ""}, {"(data D (a) (D1 (d (D a))) (D2 (x (seq (D a)))))", "OK", "D"}, {"(data D (a) (D1 (x a) (f (fun (int) (D a)))))", "OK", "D"},
		{"(class C () (field d D)) (data D () (D1 (c C)))", "OK", "D"}, {"(data D () (D1 (x (maybe C)))) (class C () (field d D))", "OK", "D"},
		{"(data D () (D1 (x (imap int X)))) (data X () (X1 (x X)))", "D error 3", ""}, {"(data D () (D1 (x (imap int (seq X))))) (data X () (X1 (x X)))", "X error 3", "D"}, {"(data D () (D1 (x (imap X int)))) (data X () (X1 (x X)))", "X error 3", "D"}, {"(data D () (D1 (x (fun () X)) (y (seq X)) (s (set X)) (b (bag X)) (m (map X X)))) (data X () (X1 (x X)))", "X error 3", "D"},
		// Negative ones are told first, of one name; of several the first one.
		{"(data D () (D1 (f (fun (D) int)) (d D)))", "D error 8", ""}, {"(data D () (D1 (f (fun (D) int))))", "D error 8", "D"}, {"(data U () (U1 (u U))) (data N () (N1 (f (fun (N) int))))", "U error 3", "N"}, {"(data N () (N1 (f (fun (N) int)))) (data U () (U1 (u U)))", "N error 8", "N"},
		{"(data D () (D1 (m (imap int D))))", "D error 8", ""}, {"(data D () (D1 (m (imap int D)) (d D)) (D2))", "D error 8", "D"},
		// Z needs X of its first argument alone.
		{"(data Z (a b) (Z1 (x a)) (Z2 (z (Z b a)) (x a))) (data D () (D1 (z (Z int D)))) (data E () (E1 (z (Z E int))))", "E error 3", "D Z"},
		{"(data Z (a b) (Z1 (x a)) (Z2 (z (Z b a)))) (data D () (D1 (z (Z int D)))) (data E () (E1 (z (Z E int)))) (data F () (F1 (z (Z F F))))", "F error 3", "D E Z"},
		{"", "OK", ""}, {"(function f () int 1) (class C ()) (sub s (x int) true 0)", "OK", ""},
	} {
		p := forms(c.p)
		if got := checked(p); got != c.check {
			t.Errorf("Check %s: %s, not %s", c.p, got, c.check)
		}
		if got := named(inhabit.Founded(p)); got != c.founded {
			t.Errorf("Founded %s: %s, not %s", c.p, got, c.founded)
		}
	}
}

// P9.1: errors of scope and typing come first, as they are.
func TestTypingFirst(t *testing.T) {
	bad := "(data U () (U1 (u U))) (data N () (N1 (f (fun (N) int)))) "
	for s, want := range map[string]string{
		"(function f () int x)": "f error 6", "(function f () int true)": "f error 8", "(method f () ()) (method f () ())": "f error 7", "(function f () int (+ 1))": " error 4", "(data B () (B (f (fun (B) int))))": "B error 7", "(data D () (D1 (x nowhere)))": "D error 6", "(data D () (D1 (x U)) (D2 (x (U int))))": "D error 8", "(trait f (f))": "f error 11",
		"(sub s (x s) true 1)": "s error 8", "(sub s (x int) 1 1)": "s error 8", "(function f () (bits 3) (bits 3 8))": "f error 5", "(codata S () (S1 (s (set S))))": "S error 8",
	} {
		for _, p := range []string{bad + s, s + bad} {
			if got := checked(forms(p)); got != want {
				t.Errorf("Check %s: %s, not %s", p, got, want)
			}
			name, err := typing.Check(forms(p))
			if got := name + " " + failed(err); got != want {
				t.Errorf("typing.Check %s: %s", p, got)
			}
		}
	}
	var many []api.Form
	for i := range 201 {
		many = append(many, forms("(class C"+strconv.Itoa(i)+" ())")...)
	}
	if got := checked(many); got != " error 1" {
		t.Errorf("Check of too many: %s", got)
	}
	isLet(t, "just enough", many[1:])
	if got := checked([]api.Form{{Kind: 9}}); got != " error 1" {
		t.Errorf("Check of no form: %s", got)
	}
}

// P9.2: all but Check have scope.Check's error first; what typing says is not
// asked there.
func TestScopeFirst(t *testing.T) {
	for _, s := range []string{"(function f () int x)", "(method f () ()) (method f () ())", "(function f () int (+ 1))", "(data D () (D1 (x (D int))))", "(trait f (f))", "(data D () (D1 (x nowhere)))", "(data B () (B))"} {
		p := forms(s)
		_, err := scope.Check(p)
		want := failed(err)
		for _, t1 := range []string{"int", "nowhere", "(set)", "C", "7"} {
			if got := counted(inhabit.Count(p, form(t1))); got != want {
				t.Errorf("Count %s in %s: %s", t1, s, got)
			}
			if got := told(inhabit.Witness(p, form(t1))); got != want {
				t.Errorf("Witness %s in %s: %s", t1, s, got)
			}
		}
		if got := named(inhabit.Founded(p)); got != want {
			t.Errorf("Founded %s: %s", s, got)
		}
		for _, name := range []string{"D", "B", "nowhere", "", "f"} {
			if got := said(inhabit.Eq(p, name)); got != want {
				t.Errorf("Eq %s in %s: %s", name, s, got)
			}
			if got := said(inhabit.Ready(p, name)); got != want {
				t.Errorf("Ready %s in %s: %s", name, s, got)
			}
		}
		if got := rows(inhabit.Table(p)); got != want {
			t.Errorf("Table %s: %s", s, got)
		}
	}
	// What typing and Check say is not asked.
	p := forms("(data D () (D1 (n int))) (function f () int true) (data N () (N0) (N1 (f (fun (N) int)))) (data U () (U1 (u U)))")
	if got := checked(p); got != "f error 8" {
		t.Errorf("Check: %s", got)
	}
	if got := told(inhabit.Witness(p, form("N"))) + " " + counted(inhabit.Count(p, form("U"))) + " " + named(inhabit.Founded(p)); got != "(make N0) 0 D N" {
		t.Errorf("In a program that is not well typed: %s", got)
	}
}
