package typing_test

import (
	"strconv"
	"strings"
	"testing"

	"plinth/api"
	"plinth/kind"
	"plinth/reader"
	"plinth/scope"
	"plinth/typing"
)

// types are types of the world, by rows: those of one row have the same base, the
// first one.
var types = [][]string{
	{"int", "nat", "small"}, {"bool"}, {"null"}, {"(bits 3)"}, {"(bits 4)"}, {"C", "oc"}, {"T"}, {"U"}, {"A"}, {"(maybe C)", "mc"}, {"(maybe T)"}, {"(maybe U)"}, {"(maybe A)"}, {"E"}, {"Odd"},
	{"(seq int)", "(seq nat)", "nats", "(seq small)"}, {"(seq (seq int))", "(seq nats)", "(seq (seq nat))"}, {"(seq C)", "(seq oc)"}, {"(seq T)"}, {"(set int)", "(set nat)"}, {"(set (maybe C))", "(set mc)"}, {"(bag int)", "(bag small)"}, {"(map int (seq int))", "(map nat nats)", "(map small (seq nat))"}, {"(map T C)", "(map T oc)"}, {"(imap int int)", "(imap nat int)"},
	{"(L int)", "(L nat)", "le"}, {"(L (L int))", "(L le)", "(L (L small))"}, {"(L C)", "(L oc)"}, {"(P int (maybe C))", "(P nat mc)"}, {"(S int)", "(S nat)"}, {"(K int)", "(K small)"}, {"(fun () int)", "(fun () nat)"}, {"(fun (int C) (L int))", "(fun (nat oc) le)", "(fun (int C) (L nat))"}, {"(fun (T) int)"}, {"(fun ((maybe C)) int)", "(fun (mc) nat)"}, {"(L T)"}, {"(fun (seq int) int)"},
}

// P8.2: the base of a type.
func TestBase(t *testing.T) {
	p := forms(world + "(predicate pz (tp zp) ((x zp)) true) (codata cz (zc) (Cz (x zc)))")
	for _, row := range types {
		if row[0] == "(fun (seq int) int)" { // seq is no type
			row = []string{"(fun ((seq int) int) int)", "(fun ((seq nat) small) nat)"}
		}
		for _, s := range row {
			if got := told(typing.Base(p, form(s))); got != row[0] {
				t.Errorf("Base of %s: %s, not %s", s, got, row[0])
			}
		}
	}
	// Names that are heads, or are like those of others, and type variables.
	for s, want := range map[string]string{"(L a)": "(L a)", "a": "a", "(seq b)": "(seq b)", "(map nat a)": "(map int a)", "(set a)": "(set a)", "zp": "zp", "(cz zc)": "(cz zc)", "(cz nats)": "(cz (seq int))"} {
		if got := told(typing.Base(p, form(s))); got != want {
			t.Errorf("Base of %s: %s, not %s", s, got, want)
		}
	}
}

// P8.1: subset types that lead back to themselves have no base, and none has one
// that is no valid form. All others have.
func TestBaseOfCircles(t *testing.T) {
	p := forms("(sub a (x b) true 1) (sub b (x (seq c)) true 1) (sub c (x (fun (int) a)) true 1) (sub d (x (map d1 a)) true 1) (sub d1 (x nat) true 1) (sub nat (x int) true 1) (sub e (x e) true 1) (data D (a) (D1 (f a)))")
	for s, want := range map[string]string{"a": "error 8", "b": "error 8", "c": "error 8", "d": "error 8", "e": "error 8", "(seq a)": "error 8", "(fun (e) int)": "error 8", "(map int d)": "error 8", "d1": "int", "nat": "int", "(D d1)": "(D int)"} {
		if got := told(typing.Base(p, form(s))); got != want {
			t.Errorf("Base of %s: %s, not %s", s, got, want)
		}
		fits, err := typing.Fits(p, form(s), form("int"))
		if wantErr := want == "error 8"; (err == api.ErrType) != wantErr || !wantErr && fits != (want == "int") || wantErr && fits {
			t.Errorf("Fits %s: %v, error %d", s, fits, err)
		}
	}
	// Each one has two of the one ahead.
	s := "(sub s0 (x int) true 1)"
	for i := 1; i < 60; i++ {
		ahead := "s" + strconv.Itoa(i-1)
		s += " (sub s" + strconv.Itoa(i) + " (x (map int (map int (P " + ahead + " " + ahead + ")))) true 1)"
	}
	p = forms(s + " (data P (a b) (P1))")
	for i, want := range map[int]api.Errno{0: api.OK, 5: api.OK, 11: api.OK, 12: api.ErrType, 13: api.ErrType, 59: api.ErrType} {
		base, err := typing.Base(p, form("s"+strconv.Itoa(i)))
		if err != want || err == api.OK && !reader.Valid(base) {
			t.Errorf("Base of s%d: error %d, %d parts", i, err, reader.Size(base))
		}
	}
}

// fitting are rows of types of which each fits those that stand behind it, and
// what has their bases.
var fitting = [][]string{
	{"C", "T", "U", "(maybe U)"}, {"A", "T", "U", "(maybe U)"}, {"C", "(maybe C)", "(maybe T)", "(maybe U)"}, {"A", "(maybe A)", "(maybe T)", "(maybe U)"}, {"T", "(maybe T)"}, {"null", "(maybe C)", "(maybe T)", "(maybe U)"}, {"null", "(maybe A)"},
}

// baseOf is the base of a type by its row.
func baseOf(s string) string {
	for _, row := range types {
		for _, other := range row {
			if other == s {
				return row[0]
			}
		}
	}
	return ""
}

// P8.2, P8.3: which types fit which. Fits is reflexive and goes through.
func TestFits(t *testing.T) {
	p := forms(world)
	may := map[[2]string]bool{}
	for _, row := range fitting {
		for i, a := range row {
			for _, b := range row[i:] {
				may[[2]string{a, b}] = true
			}
		}
	}
	var all []string
	for _, row := range types {
		for _, s := range row {
			if s != "(fun (seq int) int)" {
				all = append(all, s)
			}
		}
	}
	fits := map[[2]string]bool{}
	for _, a := range all {
		for _, b := range all {
			got, err := typing.Fits(p, form(a), form(b))
			want := baseOf(a) == baseOf(b) || may[[2]string{baseOf(a), baseOf(b)}]
			if err != api.OK || got != want {
				t.Errorf("Fits %s %s: %v, error %d", a, b, got, err)
			}
			fits[[2]string{a, b}] = got
		}
	}
	for _, a := range all {
		for _, b := range all {
			for _, c := range all {
				if fits[[2]string{a, b}] && fits[[2]string{b, c}] && !fits[[2]string{a, c}] {
					t.Errorf("%s fits %s, and that %s, but it does not", a, b, c)
				}
			}
		}
	}
	for _, c := range []struct {
		a, b string
		want bool
	}{{"a", "a", true}, {"a", "b", false}, {"(L a)", "(L a)", true}, {"a", "int", false}, {"int", "a", false}, {"(map a nat)", "(map a int)", true}} {
		if got, err := typing.Fits(p, form(c.a), form(c.b)); err != api.OK || got != c.want {
			t.Errorf("Fits %s %s: %v, error %d", c.a, c.b, got, err)
		}
	}
}

// P8.2: Field knows the fields of data, and of classes and traits.
func TestField(t *testing.T) {
	p := forms(world + "(data W () (W1) (W2)) (trait V () (method vm () ())) (class X () ) (sub lx (x (L nat)) true (make Nil (of int))) (codata Z (a) (Z1 (za (fun (a) nat)) (zb (Z (seq a)))))")
	isLet(t, "the world and more", p)
	for c, want := range map[string]string{
		"(L int) head": "int", "(L nat) head": "int", "(L nat) tail": "(L int)", "le head": "int", "lx tail": "(L int)", "(L (maybe C)) head": "(maybe C)", "E num": "nat", "E rest": "E", "(P int bool) fst": "int", "(P (seq nat) bool) snd": "bool", "(P nat oc) snd": "C", "(K int) ks": "(set int)", "(S nat) now": "int", "(S bool) next": "(S bool)", "(Z bool) za": "(fun (bool) nat)", "(Z int) zb": "(Z (seq int))", "Odd w": "int", "(Q int) same": "int", "(L a) tail": "(L a)",
		"C x": "nat", "C o": "(maybe C)", "C gx": "(L nat)", "C tx": "int", "C ux": "nat", "C ug": "bool", "(maybe C) x": "nat", "mc ux": "nat", "oc d": "Odd", "T tx": "int", "T ux": "nat", "(maybe U) ug": "bool", "U ux": "nat", "B f": "(fun (int) int)", "A tx": "int",
		// Not the same in all CTORs.
		"Odd v": "error 8", "(Q bool) same": "error 8",
		// Others.
		"(L int) nowhere": "error 6", "(L int) num": "error 6", "E head": "error 6", "(S int) head": "error 6", "C nowhere": "error 6", "C bx": "error 6", "T x": "error 6", "U tx": "error 6", "C uf": "error 6", "C cm": "error 6", "(maybe T) x": "error 6", "A x": "error 6", "Odd x": "error 6", "mc fst": "error 6", "C Nil": "error 6", "(L int) Nil": "error 6",
		// None at all.
		"int x": "error 8", "bool x": "error 8", "nat x": "error 8", "(bits 3) x": "error 8", "(seq C) x": "error 8", "nats x": "error 8", "(set (L int)) head": "error 8", "(map int C) x": "error 8", "(fun () C) x": "error 8", "null x": "error 8", "W x": "error 8", "V vm": "error 8", "X x": "error 8", "(maybe X) x": "error 8", "a x": "error 8",
	} {
		cut := strings.LastIndex(c, " ")
		if got := told(typing.Field(p, form(c[:cut]), c[cut+1:])); got != want {
			t.Errorf("Field %s: %s, not %s", c, got, want)
		}
	}
	for _, name := range []string{"", "a b", "(", "1", strings.Repeat("x", 100)} {
		if got := told(typing.Field(p, form("C"), name)); got != "error 6" {
			t.Errorf("Field C %q: %s", name, got)
		}
	}
}

// P8.1: programs that scope does not let, and arguments that are none.
func TestArguments(t *testing.T) {
	deep := api.Form{Kind: api.Word, Text: "int"}
	for range 120 {
		deep = list(word("seq"), deep)
	}
	bad := []api.Form{{Kind: 9}, {Kind: api.Word}, {Kind: api.Num, N: 3, Text: "x"}, list(word("seq"), api.Form{Kind: -1}), deep, {Kind: api.Text, Text: "int"}, num(3), list(), list(list()), list(word("seq")), word("nowhere"), word("L"), word("if"), form("(L int int)"), form("(maybe int)"), form("(set (fun () int))"), form("(seq null)"), form("(bits 17)"), form("(maybe a)"), form("(a int)")}
	p := forms(world)
	for _, f := range bad {
		if got := told(typing.Base(p, f)); got != "error 1" {
			t.Errorf("Base of %v: %s", f, got)
		}
		if got := told(typing.Field(p, f, "x")); got != "error 1" {
			t.Errorf("Field of %v: %s", f, got)
		}
		for _, pair := range [][2]api.Form{{f, word("int")}, {word("int"), f}, {f, f}} {
			if fits, err := typing.Fits(p, pair[0], pair[1]); err != api.ErrArg || fits {
				t.Errorf("Fits of %v: %v, error %d", pair, fits, err)
			}
		}
		if got := told(typing.Type(p, []typing.Var{{Name: "x", Type: f}}, "", num(1))); got != "error 1" {
			t.Errorf("Type with x of %v: %s", f, got)
		}
	}
	for _, t1 := range []string{"null", "a", "(seq a)"} {
		if got := told(typing.Type(p, []typing.Var{{Name: "x", Type: form(t1)}}, "", num(1))); got != "error 1" {
			t.Errorf("Type with x of %s: %s", t1, got)
		}
	}
	for _, names := range []string{"x,x", "x,y,x", "this", "result", "true", "null", "int", "if", "", "a b", "(", "1", "x'", "_x", "+", strings.Repeat("x", 21), "x,", "x," + strings.Repeat("y", 40)} {
		var vars []typing.Var
		for _, name := range strings.Split(names, ",") {
			vars = append(vars, typing.Var{Name: name, Type: word("int")})
		}
		if got := told(typing.Type(p, vars, "", num(1))); got != "error 1" {
			t.Errorf("Type with %q: %s", names, got)
		}
	}
	for _, class := range []string{"L", "nat", "E", "nowhere", "id", "int", "c", "C.x", "null", "(maybe C)", " ", "a"} {
		if got := told(typing.Type(p, nil, class, num(1))); got != "error 1" {
			t.Errorf("Type within %q: %s", class, got)
		}
	}
	for _, e := range []api.Form{{Kind: 9}, {Kind: api.Word}, {Kind: api.Text, Text: "x"}, list(), form("(+ 1)"), form("(call () m 1)"), form("if")} {
		if got := told(typing.Type(p, nil, "", e)); got != "error 1" {
			t.Errorf("Type of %v: %s", e, got)
		}
	}
	// A variable of the name of anything is one.
	if got := told(typing.Type(p, varsOf("C int nat bool id nat L (L int)"), "C", form("(if nat (+ C id) (get head L))"))); got != "int" {
		t.Errorf("Type with names of declarations: %s", got)
	}
}

// P8.1: a program that scope does not let is ErrArg for all but Check.
func TestNotLet(t *testing.T) {
	for s, want := range map[string]string{"(function f () int x)": "f error 6", "(function f () int 1) (method f () ())": "f error 7", "(function f () int)  (function g () int (+ 1))": " error 4", "(data D () (X (y D1)))": "D error 6", "(data D () (X (y (D int))))": "D error 8", "(trait f (f))": "f error 11"} {
		p := forms(s)
		if got := checked(p); got != want {
			t.Errorf("Check %s: %s, not %s", s, got, want)
		}
		if got := told(typing.Type(p, nil, "", num(1))); got != "error 1" {
			t.Errorf("Type in %s: %s", s, got)
		}
		if got := told(typing.Base(p, word("int"))); got != "error 1" {
			t.Errorf("Base in %s: %s", s, got)
		}
		if fits, err := typing.Fits(p, word("int"), word("int")); fits || err != api.ErrArg {
			t.Errorf("Fits in %s: %v, error %d", s, fits, err)
		}
		if got := marksText(typing.Marks(p, "f")); got != "error 1" {
			t.Errorf("Marks in %s: %s", s, got)
		}
		if got := named(typing.Locals(p, "f")); got != "error 1" {
			t.Errorf("Locals in %s: %s", s, got)
		}
		if got := told(typing.Field(p, word("D"), "y")); got != "error 1" {
			t.Errorf("Field in %s: %s", s, got)
		}
	}
	// What is not well typed is let there.
	p := forms("(function f () int true)")
	if got := told(typing.Type(p, nil, "", form("(call f)"))); got != "int" {
		t.Errorf("Type in a program that is not well typed: %s", got)
	}
}

// R5: arguments are not changed.
func TestArgumentsStay(t *testing.T) {
	p := forms(world + "(method q ((i int)) ((n nat)) (body (set n (call id (of nat) i)) (var w nats (empty nats))))")
	before := cloned(p)
	vars := varsOf(locals)
	e := form("(call two (of nat (seq nat)) (get head ln) (cat qs qn))")
	same := cloned([]api.Form{e})[0]
	typing.Check(p)
	typing.Type(p, vars, "C", e)
	typing.Marks(p, "q")
	typing.Locals(p, "q")
	typing.Base(p, form("(map nat nats)"))
	typing.Field(p, form("(L nat)"), "tail")
	if !identical(list(p...), list(before...)) || !identical(e, same) || named(vars, api.OK) != named(varsOf(locals), api.OK) {
		t.Errorf("arguments are changed")
	}
	if rows := scope.Table(p); kind.Check(form("(map nat nats)"), rows) != api.OK {
		t.Errorf("the table of the program")
	}
}
