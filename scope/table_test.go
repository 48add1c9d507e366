package scope_test

import (
	"strings"
	"testing"

	"plinth/api"
	"plinth/scope"
)

// P7.2: Table has the rows of the types, also of a program that is not let.
func TestTable(t *testing.T) {
	for _, c := range []struct{ p, want string }{
		{"", ""},
		{"(function f () int) (method m () ()) (lemma l () ())", ""},
		{world, "B 3 0, C 3 0, D 1 1 eq new, E 1 0 eq new, S 2 0 new, T 4 0, U 4 0, nat 5 0 eq new"},
		{"(data z (a b c d) (eq a) (X)) (codata y (a b) (Y)) (class x ()) (trait w ())", "w 4 0, x 3 0, y 2 2 new, z 1 4 eq new"},
		{"(data z (a b c d e) (X)) (codata y (a b c d e) (Y)) (sub s (x z) true 1)", "s 5 0 new"},
		{"(data z (a) (X (f (fun (a) a)))) (data y () (Y (g y)))", "y 1 0 eq new, z 1 1 eq new"},
	} {
		if got := rows(scope.Table(forms(c.p))); got != c.want {
			t.Errorf("Table %s: %s, not %s", c.p, got, c.want)
		}
	}
	for _, c := range []struct {
		sub string
		eq  bool
	}{
		{"int", true}, {"bool", true}, {"(bits 3)", true}, {"(seq int)", true}, {"(map int (set bool))", true}, {"(maybe C)", true}, {"C", true}, {"T", true}, {"E", true}, {"(D (D int))", true}, {"nat", true}, {"(set nat)", true},
		{"S", false}, {"(fun () int)", false}, {"(imap int int)", false}, {"(D S)", false}, {"(seq (imap int int))", false},
		{"s", false}, {"(seq s)", false}, {"(D s)", false}, {"nowhere", false}, {"(seq)", false}, {"(bits 17)", false}, {"(set S)", false}, {"D", false}, {"(maybe int)", false}, {"(D int int)", false}, {"f", false},
		{"eqsub", true}, {"(seq eqsub)", true}, {"nosub", false}, {"(D nosub)", false}, {"circle1", false}, {"circle2", false}, {"(map int circle2)", false}, {"leading", false},
	} {
		subs := "(sub eqsub (x (seq eqsub2)) true 1) (sub eqsub2 (x (D nat)) true 1) (sub nosub (x nosub2) true 1) (sub nosub2 (x S) true 1) " +
			"(sub circle1 (x circle2) true 1) (sub circle2 (x (seq circle1)) true 1) (sub leading (x circle1) true 1)"
		want := "s 5 0 new"
		if c.eq {
			want = "s 5 0 eq new"
		}
		for _, p := range []string{world + subs + "(sub s (x " + c.sub + ") nowhere nowhere)", "(sub s (x " + c.sub + ") true 1)" + subs + world} {
			if got := rows(scope.Table(forms(p))); !strings.HasSuffix(got, ", "+want) {
				t.Errorf("Table of (sub s (x %s) ..): %s", c.sub, got)
			}
		}
	}
}

// P7.2: of a name the first declaration counts that layer 4 lets, and what it
// does not let has no row.
func TestTableOfWhatIsNotLet(t *testing.T) {
	for _, c := range []struct{ p, want string }{
		{"(data D (a) (X)) (data D () (Y))", "D 1 1 eq new"}, {"(class D ()) (data D () (Y))", "D 3 0"}, {"(function D () int) (data D () (Y)) (trait E ())", "E 4 0"}, {"(data D (a b c d e) (X)) (class D ())", ""},
		{"(data D () (X)) (method D () ())", "D 1 0 eq new"}, {"(data D ()) (class D ())", "D 3 0"}, {"(function D) (class D ())", "D 3 0"}, {"x (trait D ()) 1 \"text\" ()", "D 4 0"}, {"(class C (C nowhere) (field x nowhere) (method m () () (body (set x y))))", "C 3 0"},
		{"(sub D (x S) true 1) (sub D (x int) true 1) (sub E (x D) true 1) (codata S () (X))", "D 5 0 new, E 5 0 new, S 2 0 new"}, {"(function S () int) (sub D (x S) true 1) (data S () (X))", "D 5 0 new"}, {"(trait A (B)) (trait B (A))", "A 4 0, B 4 0"},
	} {
		if got := rows(scope.Table(forms(c.p))); got != c.want {
			t.Errorf("Table %s: %s, not %s", c.p, got, c.want)
		}
	}
	var many []api.Form
	for range 300 {
		many = append(many, forms("(data D () (X))")...)
	}
	many = append(many, forms("(trait T ())")...)
	many = append(many, api.Form{Kind: 9})
	if got := rows(scope.Table(many)); got != "D 1 0 eq new, T 4 0" {
		t.Errorf("Table of too many: %s", got)
	}
}

// P7.2: Find is a declaration, or a field or member of a class or trait, as it
// stands.
func TestFind(t *testing.T) {
	p := forms(world)
	for name, want := range map[string]string{
		"E": "(data E () (One) (Two (hd int) (rest E)))", "nat": "(sub nat (n int) (<= 0 n) 0)", "gm": "(ghost (method gm () ()))", "gf": "(ghost (function gf () int 1))", "le": "(least le ((x int)) true)", "ex": "(extern ex () ())", "B": "(class B () (field bx int))",
		"C.x": "(field x int)", "C.gx": "(ghost (field gx int))", "C.cm": "(method cm ((i int)) ((r int)))", "C.cl": "(lemma cl () ())", "T.tm": "(method tm () ())", "U.ug": "(ghost (field ug int))", "ga": "(function ga (tp a) ((x a)) a x)",
		"nowhere": "error 6", "": "error 6", "x": "error 6", "cm": "error 6", "One": "error 6", "E.One": "error 6", "E.hd": "error 6", "C.nowhere": "error 6", "nowhere.x": "error 6", "C.": "error 6", ".x": "error 6", ".": "error 6", "C.x.y": "error 6", "f.x": "error 6", "C.tm": "error 6", "C x": "error 6", "int": "error 6", "data": "error 6",
	} {
		f, err := scope.Find(p, name)
		if got := told(written(f), err); got != want {
			t.Errorf("Find %s: %s, not %s", name, got, want)
		}
	}
}

// P7.2: Members are a class's or trait's own ones, and those by its traits.
func TestMembers(t *testing.T) {
	const p = `(class C (A B) (field x int) (method m () ()) (ghost (function g () int)))
		(trait A (D E) (field a bool) (method m ((y int)) ())) (trait B (E D) (field b int) (field d bool)) (trait D (E) (field d int) (ghost (field x bool))) (trait E () (lemma e () ()) (field a int))
		(class F () ) (class G (F1)) (trait F1 ()) (function f () int) (data X () (Y (z int)))`
	for class, want := range map[string]string{
		"C": "(field x int) (method m () ()) (ghost (function g () int)) (field a bool) (field d int) (lemma e () ()) (field b int)",
		"A": "(field a bool) (method m ((y int)) ()) (field d int) (ghost (field x bool)) (lemma e () ())",
		"B": "(field b int) (field d bool) (lemma e () ()) (field a int) (ghost (field x bool))",
		"D": "(field d int) (ghost (field x bool)) (lemma e () ()) (field a int)", "E": "(lemma e () ()) (field a int)", "F": "", "G": "",
		"f": "error 6", "X": "error 6", "Y": "error 6", "nowhere": "error 6", "": "error 6", "C.m": "error 6",
	} {
		l, err := scope.Members(forms(p), class)
		if got := told(written(l...), err); got != want {
			t.Errorf("Members %s: %s, not %s", class, got, want)
		}
	}
}

// P7.2: Below tells of classes and traits alone, also of a program that is not
// let.
func TestBelow(t *testing.T) {
	const p = `(class C (A)) (trait A (B D)) (trait B ()) (trait D (E)) (trait E ()) (class F ()) (function f () int nowhere) (data X () (Y)) (data X () (Z)) (sub s (x int) true 1)
		(trait L1 (L2 E)) (trait L2 (L1 nowhere f)) (class G (nowhere D)) (trait N) (class H (N)) (trait E (F)) (trait f ()) (class I (f))`
	below := map[string]string{"C": "C A B D E", "A": "A B D E", "B": "B", "D": "D E", "E": "E", "F": "F", "L1": "L1 L2 E", "L2": "L2 L1 E", "G": "G D E", "H": "H", "I": "I"}
	names := strings.Fields("C A B D E F f X Y Z s L1 L2 G N H I nowhere int x") // and the empty one
	for _, a := range append(names, "") {
		for _, b := range append(names, "") {
			want := strings.Contains(" "+below[a]+" ", " "+b+" ") && b != ""
			if got := scope.Below(forms(p), a, b); got != want {
				t.Errorf("Below %q %q: %v", a, b, got)
			}
		}
	}
	if scope.Below(nil, "C", "C") || scope.Below([]api.Form{{Kind: 9}, word("C")}, "C", "C") {
		t.Error("Below of no program")
	}
}
