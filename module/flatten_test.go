package module_test

import (
	"slices"
	"strings"
	"testing"

	"plinth/api"
	"plinth/module"
)

// decls are declarations: @ is a name that is used, ! one that is declared, % a
// type variable, and # a name that is local, or of a field, member or label.
var decls = []string{
	"(data ! () (!1 (# @)) (!2))", "(data ! (%) (eq %) (!1 (# @)) (!2 (# (@ % @)) (#2 int)))", "(codata ! (% %2) (!1 (#3 %) (#4 (seq %2)) (#5 @)))", "(codata ! () (!1 (# (@ @))) (!2))",
	"(sub ! (# @) (is @ #) (make @))", "(trait ! ())", "(trait ! (@ @ @))", "(class ! (@ @) (field # @) (ghost (field #2 (set @))))",
	"(class ! () (function # ((# @)) @ (requires (call @)) (call @ #)) (predicate #2 ((# @)) (is @ #)) (twostate #3 () (by (reveal @)) (old # (call @))) (method #4 ((#5 @)) ((# @)) (body (call (#) @ #))) (lemma #6 ((# @)) ()))",
	"(trait ! () (ghost (function # ((# @)) @)) (ghost (predicate #2 () (reads (call @)))) (ghost (method #3 ((# @)) () (modifies (call @)))))",
	"(function ! ((# @) (#2 (seq @))) @)", "(function ! (tp % %2) ((#3 %) (#4 @)) (fun (% @) %2))", "(function ! ((# int)) int (requires (is @ #)) (ensures (call @)) (reads (call @)) (decreases (call @) (call @)) (opaque) (fuel 3) (by (reveal @)) (call @))",
	"(predicate ! ((# @)))", "(predicate ! (tp %) ((# %) (#2 @)) (call @ #))", "(twostate ! ((# @)) (call @))", "(least ! ((# @)) (call @))", "(greatest ! ((# @)) (call @))",
	"(method ! ((# @)) ((#2 @)) (requires (call @)) (ensures (call @)) (modifies (call @)) (decreases (call @)) (body (reveal @)))", "(lemma ! ((# @)) ((#2 @)) (body (reveal @)))", "(extern ! ((# @)) ((#2 @)) (ensures (call @)))",
	"(ghost (function ! ((# @)) @ (call @)))", "(ghost (predicate ! (tp %) ((# (@ %))) (call @)))", "(ghost (method ! ((# @)) ((#2 @)) (body (reveal @))))",
}

// exprs are expressions, in the same way.
var exprs = []string{
	"#", "3", "true", "this", "(+ # (call @))", "(neg (call @))", "(and (call @) (call @) (call @))", "(if (call @) (call @) (call @))",
	"(let (# (call @)) (call @))", "(pick (# (call @) (call @)) (call @) (call @))", "(match (call @) (@ () (call @)) (@ (# #2) (call @)))",
	"(fn () (call @))", "(fn ((# @) (#2 (map @ @))) (call @))", "(app (call @) (call @) #)",
	"(call @)", "(call @ # (call @))", "(call @ (of @) (call @))", "(call @ (of (seq @) int (fun (@) @)))", "(make @)", "(make @ (of @ @) (call @) #)", "(is @ (call @))", "(get # (call @))",
	"(bits 4 3)", "(seq (call @) (call @))", "(set (call @) (call @))", "(bag (call @))", "(map ((call @) (call @)) (# (call @)))", "(empty @)", "(empty (imap @ (bits 3)))", "(imap (call @) @)", "(imap # (maybe @))",
	"(cut (call @) (call @) (call @))", "(all (# (call @) (call @)) (call @))", "(some (# # #) (call @))", "(every (# (call @)) (call @))", "(any (# #) (call @))",
	"(forall ((# @)) (call @))", "(forall ((# @) (#2 @)) (trigger (call @)) (trigger (call @) (call @)) (call @))", "(exists ((# @)) (trigger (call @)) (call @))",
	"(old (call @))", "(old # (call @))", "(fresh (call @))", "(fuel 3 @ (call @))", "(prefix @ (call @) (call @) (call @))",
}

// stmts are statements, in the same way.
var stmts = []string{
	"(var # @)", "(var # (set (@ @)) (call @))", "(set # (call @))", "(store (call @) # (call @))", "(new # @)", "(new # @ (# (call @)) (#2 (call @)))",
	"(call () @)", "(call (# #2) @ # (call @))", "(send () (call @) #)", "(send (# #2) (call @) # (call @) (call @))", "(choose # (call @) (call @) (call @))",
	"(if (call @) () ())", "(if (call @) ((reveal @) (leave)) ((reveal @)))", "(while (call @) () (reveal @) (reveal @))", "(while # ((invariant (call @)) (decreases (call @) (call @)) (modifies # (call @))))",
	"(case (call @) (@ () (reveal @) (reveal @)) (@ (# #2)))", "(assert (call @))", "(assert (call @) (by (reveal @) (reveal @)))", "(assume (call @))", "(expect (call @))", "(leave)", "(label # (reveal @) (reveal @))",
	"(each (# (call @) (call @)) (store (call @) # (call @)))", "(lemma (# (call @) (call @)) (requires (call @)) @ # (call @))", "(calc (call @))", "(calc (call @) (= (call @)) (=> (call @) (by (reveal @) (reveal @))) (iff #))",
	"(reveal @)", "(ghost (reveal @) (reveal @))", "(block (reveal @) (block (reveal @)))",
}

// all are decls, and declarations with each of exprs and stmts in them.
func all() []string {
	l := slices.Clone(decls)
	for _, e := range exprs {
		for _, s := range []string{"(function ! () int X)", "(predicate ! (tp %) () (requires X) (ensures (not X)) X)", "(sub ! (# int) X X)", "(class ! () (function # () int X) (method #2 () () (requires X)))", "(method ! () () (modifies X X) (body (assert X)))"} {
			l = append(l, strings.ReplaceAll(s, "X", e))
		}
	}
	for _, s := range stmts {
		for _, d := range []string{"(method ! () () (body X))", "(function ! () int (by X (block X)) 1)", "(class ! () (lemma # () () (body X)))", "(lemma ! () () (body (assert # (by X)) (if # (X) (X))))"} {
			l = append(l, strings.ReplaceAll(d, "X", s))
		}
	}
	return l
}

// spelled is a declaration with names.
func spelled(s, used, declared, local string) string {
	return strings.NewReplacer("@", used, "!", declared, "%", "v", "#", local).Replace(s)
}

const givesU = "(module A (function u () int)) "

// P6.2: names that are declared, and that are used, are written anew wherever
// they stand. What is local, or a part of something, stays as it is, also where
// it has the same name.
func TestFlattenNames(t *testing.T) {
	for _, s := range all() {
		for _, local := range []string{"l", "u", "d"} {
			text := spelled(s, "u", "d", local)
			flat, err := module.Flatten(forms(givesU + "(module M (open A) " + text + ")"))
			if got, want := told(flat, err), "(function A_u () int) "+spelled(s, "A_u", "M_d", local); got != written(forms(want)) {
				t.Errorf("Flatten %s:\n got %s\nwant %s", text, got, want)
			}
			flat, err = module.Flatten(forms(givesU + "(module M (refines A) " + text + ")"))
			if got, want := told(flat, err), "(function A_u () int) (function M_u () int) "+spelled(s, "M_u", "M_d", local); got != written(forms(want)) {
				t.Errorf("Flatten %s:\n got %s\nwant %s", text, got, want)
			}
			text = spelled(s, "d", "d", local)
			flat, err = module.Flatten(forms("(module M " + text + ")"))
			if got, want := told(flat, err), spelled(s, "M_d", "M_d", local); got != written(forms(want)) {
				t.Errorf("Flatten %s:\n got %s\nwant %s", text, got, want)
			}
		}
	}
}

// P6.1: names that are used are asked wherever they stand, from the front.
func TestAskedNames(t *testing.T) {
	const opening = "(module A (function u () int) (function w () int)) (module B (class w ())) (module M (open A) (open B) "
	for _, s := range all() {
		parts := strings.Split(spelled(s, "@", "d", "l"), "@")
		let(t, opening+strings.Join(parts, "u")+")")
		for i := 1; i < len(parts); i++ {
			ahead, behind := strings.Join(parts[:i], "u"), parts[i:]
			stopped(t, api.ErrName, opening+ahead+"none"+strings.Join(behind, "u")+")", opening+ahead+"none"+strings.Join(behind, "w")+")", opening+ahead+"l"+strings.Join(behind, "u")+")")
			stopped(t, api.ErrDup, opening+ahead+"w"+strings.Join(behind, "u")+")", opening+ahead+"w"+strings.Join(behind, "none")+")")
		}
	}
}

// P6.1, P6.2: type variables hide names wherever one is used, within their
// declaration alone. What is declared there is renamed as ever.
func TestTypeVariables(t *testing.T) {
	for _, c := range []struct{ decls, want string }{
		{"(data D (u) (C (x u) (y (D u))) (u)) (class E () (field x u))", "(data M_D (u) (M_C (x u) (y (M_D u))) (M_u)) (class M_E () (field x M_u))"},
		{"(codata D (a u) (eq u) (u (x (u a)))) (sub S (u u) (is u u) (call u))", "(codata M_D (a u) (eq u) (M_u (x (u a)))) (sub M_S (u M_u) (is M_u u) (call M_u))"},
		{"(function u (tp u D) ((u u) (x D)) (seq u) (requires (is u u)) (fn ((u u)) (call u (of u) (empty D)))) (predicate D ((x u)))", "(function M_u (tp u D) ((u u) (x D)) (seq u) (requires (is u u)) (fn ((u u)) (call u (of u) (empty D)))) (predicate M_D ((x M_u)))"},
		{"(ghost (predicate p (tp u) ((x u)) (by (var y u) (new y u) (reveal u)) (match x (u (u) (make u (of u) u))))) (trait u (u))", "(ghost (predicate M_p (tp u) ((x u)) (by (var y u) (new y u) (reveal u)) (match x (u (u) (make u (of u) u))))) (trait M_u (M_u))"},
		{"(function f (tp u v) () int (by (call () u) (lemma (x 1 2) (requires true) v) (case 1 (u ()))) (fuel 2 v (prefix u 1))) (function g () int (call u (call v))) (method u () ()) (method v () ())", "(function M_f (tp u v) () int (by (call () u) (lemma (x 1 2) (requires true) v) (case 1 (u ()))) (fuel 2 v (prefix u 1))) (function M_g () int (call M_u (call M_v))) (method M_u () ()) (method M_v () ())"},
	} {
		flat, err := module.Flatten(forms("(module M " + c.decls + ")"))
		if got := told(flat, err); got != c.want {
			t.Errorf("Flatten %s:\n got %s\nwant %s", c.decls, got, c.want)
		}
	}
	for _, s := range all() {
		if !strings.Contains(s, "(tp %") {
			continue
		}
		// What a type variable hides is no name that is asked, nor written anew.
		text := spelled(s, "v", "d", "l")
		flat, err := module.Flatten(forms("(module A (function v () int)) (module B (function v () int)) (module M (open A) (open B) " + text + ")"))
		if got, want := told(flat, err), "(function A_v () int) (function B_v () int) "+spelled(s, "v", "M_d", "l"); got != written(forms(want)) {
			t.Errorf("Flatten %s:\n got %s\nwant %s", text, got, want)
		}
		flat, err = module.Flatten(forms("(module M " + text + ")"))
		if got, want := told(flat, err), spelled(s, "v", "M_d", "l"); got != written(forms(want)) {
			t.Errorf("Flatten %s:\n got %s\nwant %s", text, got, want)
		}
	}
}

// P6.2: Order.
func TestOrder(t *testing.T) {
	for _, c := range []struct{ modules, want string }{
		{"", ""}, {"(module A)", "A"}, {"(module B) (module A)", "B A"}, {"(module B (open A)) (module A)", "A B"}, {"(module B (refines A)) (module A (abstract))", "A B"},
		{"(module C (open A)) (module B) (module A)", "B A C"}, {"(module D (open B)) (module C) (module B (open A)) (module A) (module E)", "C A B D E"}, {"(module D (open A)) (module C (open A)) (module B (open D)) (module A)", "A D C B"},
		{"(module E (refines D) (open B)) (module D (open C)) (module C) (module B (refines C))", "C D B E"}, {"(module A) (module B (open A) (open A)) (module C (refines B) (open B))", "A B C"}, {"(module C (open B) (open A)) (module B) (module X) (module A)", "B X A C"},
	} {
		if got := named(module.Order(forms(c.modules))); got != c.want {
			t.Errorf("Order %s: %s", c.modules, got)
		}
	}
}

// some are modules that open and refine each other.
const some = `
(module P (open N) (refines B) (open B) (predicate p () (call x)) (method q () () (body (reveal g))) (predicate f ((y D))))
(module B (open M) (refines O) (function g ((y D)) int) (class K () (method run () () (ensures (call f)) (body)) (field b B)) (sub B (x int) true 0))
(module N (open B) (open L) (function x () D (call f)))
(module O (abstract) (refines A) (method n ((y D)) () (ensures (call e (make C y))) (body)) (data h () (H)))
(module A (open L) (abstract) (class K () (field a int) (method run () ())) (data D () (C (x D))) (method n ((y D)) () (requires (call f y))) (ghost (predicate e ())))
(module L (ghost (function f ((y int)) int)) (function g () int))
(module M (data D (a) (E)) (function m () D))
`

// P6.2: Full, Declares and Flatten of the same modules.
func TestModules(t *testing.T) {
	l, flat := forms(some), ""
	for _, c := range []struct{ name, declares, full, flat string }{
		{"L", "f g", "(ghost (function f ((y int)) int)) (function g () int)", "(ghost (function L_f ((y int)) int)) (function L_g () int) "},
		{"A", "C D K e n", "(class K () (field a int) (method run () ())) (data D () (C (x D))) (method n ((y D)) () (requires (call f y))) (ghost (predicate e ()))", ""},
		{"O", "C D H K e h n", "(class K () (field a int) (method run () ())) (data D () (C (x D))) (method n ((y D)) () (requires (call f y)) (ensures (call e (make C y))) (body)) (ghost (predicate e ())) (data h () (H))", ""},
		{"M", "D E m", "(data D (a) (E)) (function m () D)", "(data M_D (a) (M_E)) (function M_m () M_D) "},
		{"B", "B C D H K e g h n", "(class K () (field a int) (method run () () (ensures (call f)) (body)) (field b B)) (data D () (C (x D))) (method n ((y D)) () (requires (call f y)) (ensures (call e (make C y))) (body)) (ghost (predicate e ())) (data h () (H)) (function g ((y D)) int) (sub B (x int) true 0)",
			"(class B_K () (field a int) (method run () () (ensures (call L_f)) (body)) (field b B_B)) (data B_D () (B_C (x B_D))) (method B_n ((y B_D)) () (requires (call L_f y)) (ensures (call B_e (make B_C y))) (body)) (ghost (predicate B_e ())) (data B_h () (B_H)) (function B_g ((y B_D)) int) (sub B_B (x int) true 0) "},
		{"N", "x", "(function x () D (call f))", "(function N_x () B_D (call L_f)) "},
		{"P", "B C D H K e f g h n p q", "(class K () (field a int) (method run () () (ensures (call f)) (body)) (field b B)) (data D () (C (x D))) (method n ((y D)) () (requires (call f y)) (ensures (call e (make C y))) (body)) (ghost (predicate e ())) (data h () (H)) (function g ((y D)) int) (sub B (x int) true 0) (predicate p () (call x)) (method q () () (body (reveal g))) (predicate f ((y D)))",
			"(class P_K () (field a int) (method run () () (ensures (call P_f)) (body)) (field b P_B)) (data P_D () (P_C (x P_D))) (method P_n ((y P_D)) () (requires (call P_f y)) (ensures (call P_e (make P_C y))) (body)) (ghost (predicate P_e ())) (data P_h () (P_H)) (function P_g ((y P_D)) int) (sub P_B (x int) true 0) (predicate P_p () (call N_x)) (method P_q () () (body (reveal P_g))) (predicate P_f ((y P_D)))"},
	} {
		if got := named(module.Declares(l, c.name)); got != c.declares {
			t.Errorf("Declares %s: %s", c.name, got)
		}
		if got := told(module.Full(l, c.name)); got != c.full {
			t.Errorf("Full %s:\n got %s\nwant %s", c.name, got, c.full)
		}
		flat += c.flat
	}
	if got := told(module.Flatten(l)); got != flat {
		t.Errorf("Flatten:\n got %s\nwant %s", got, flat)
	}
}

// P6.2: Means: what a module has itself is ahead of what it opens; in two that it
// opens it is ErrDup, in none ErrName.
func TestMeans(t *testing.T) {
	l := forms(some)
	for _, c := range []struct{ module, names, want string }{
		{"L", "f g", "L L"}, {"L", "D int bool this result y _ L", "error 6"}, {"A", "f g C D K e n", "L L A A A A A"}, {"A", "E H h m x a run y A L true seq", "error 6"}, {"O", "f g C h H n", "L L O O O O"},
		{"B", "f g C D E m n B e", "L B B B M M B B B"}, {"B", "x p a b run M L", "error 6"}, {"N", "B C D H K e f h n x", "B B B B B B L B B N"}, {"N", "g", "error 7"}, {"N", "m E p q", "error 6"},
		{"P", "f g x m E C H p B", "P P N M M P P P P"}, {"P", "N P M x1", "error 6"}, {"Q", "f g int", "error 6"}, {"", "f", "error 6"}, {"f", "f g", "error 6"},
	} {
		for i, name := range strings.Fields(c.names) {
			want := c.want
			if !strings.HasPrefix(want, "error") {
				want = strings.Fields(want)[i]
			}
			if got := meant(module.Means(l, c.module, name)); got != want {
				t.Errorf("Means %s in %s: %s", name, c.module, got)
			}
		}
		for _, name := range []string{"", "int", "(", "\n", "f ", "no name"} {
			if got := meant(module.Means(l, c.module, name)); got != failed(api.ErrName) {
				t.Errorf("Means %q in %s: %s", name, c.module, got)
			}
		}
	}
	// Names that are open by refining: two of one name, or one twice.
	l = forms("(module A (function f () int)) (module B (method f () ()) (method g () ())) (module C (open A) (open A)) (module D (refines C) (open B) (open A)) (module E (refines D) (open C) (open B) (open D) (method h () ())) (module F (open E) (open D))")
	for _, c := range [][]string{{"C", "f", "A"}, {"D", "f", "error 7"}, {"D", "g", "B"}, {"E", "f", "error 7"}, {"E", "g", "B"}, {"E", "h", "E"}, {"F", "f", "error 6"}, {"F", "h", "E"}, {"C", "g", "error 6"}} {
		if got := meant(module.Means(l, c[0], c[1])); got != c[2] {
			t.Errorf("Means %s in %s: %s", c[1], c[0], got)
		}
	}
}

// P6.2: a module that is none: ErrName, behind the errors of Check.
func TestNoModule(t *testing.T) {
	for _, s := range []string{"", "(module A)", some} {
		for _, name := range []string{"", "f", "int", "a", "nowhere"} {
			if decls, err := module.Full(forms(s), name); err != api.ErrName || len(decls) > 0 {
				t.Errorf("Full of %q: error %d", name, err)
			}
			if names, err := module.Declares(forms(s), name); err != api.ErrName || len(names) > 0 {
				t.Errorf("Declares of %q: error %d", name, err)
			}
			if by, err := module.Means(forms(s), name, "D"); err != api.ErrName || by != "" {
				t.Errorf("Means in %q: error %d", name, err)
			}
		}
	}
}
