package typing_test

import (
	"slices"
	"strconv"
	"strings"
	"testing"

	"plinth/api"
	"plinth/reader"
	"plinth/typing"
)

func num(n int) api.Form             { return api.Form{Kind: api.Num, N: n} }
func word(s string) api.Form         { return api.Form{Kind: api.Word, Text: s} }
func list(kids ...api.Form) api.Form { return api.Form{Kind: api.List, Kids: kids} }

// forms reads a text of forms.
func forms(s string) []api.Form {
	l, err := reader.Read(s)
	if err != api.OK {
		panic("no forms: " + s)
	}
	return l
}

// form reads a text of one form.
func form(s string) api.Form {
	l := forms(s)
	if len(l) != 1 {
		panic("not one form: " + s)
	}
	return l[0]
}

// written are forms as a text, with blanks between.
func written(l ...api.Form) string {
	return strings.TrimSuffix(strings.ReplaceAll(reader.WriteAll(l), "\n", " "), " ")
}

// told is a form as a text or, where there is an error, its number.
func told(f api.Form, err api.Errno) string {
	if err == api.OK {
		return reader.Write(f)
	}
	if !identical(f, api.Form{}) {
		return "error " + strconv.Itoa(int(err)) + " with " + reader.Write(f)
	}
	return "error " + strconv.Itoa(int(err))
}

// failed is what told says of an error.
func failed(err api.Errno) string {
	return told(api.Form{}, err)
}

// varsOf are variables: NAME TYPE .. as a text.
func varsOf(s string) []typing.Var {
	var vars []typing.Var
	for pair := range slices.Chunk(forms(s), 2) {
		vars = append(vars, typing.Var{Name: pair[0].Text, Type: pair[1]})
	}
	return vars
}

// named are variables as a text or, where there is an error, its number.
func named(vars []typing.Var, err api.Errno) string {
	var l []string
	for _, v := range vars {
		l = append(l, v.Name+" "+reader.Write(v.Type))
	}
	if err != api.OK {
		return strings.Join(append(l, failed(err)), " ")
	}
	return strings.Join(l, " ")
}

// checked is what Check tells, as a text: OK, or NAME and an error.
func checked(p []api.Form) string {
	name, err := typing.Check(p)
	if err == api.OK {
		return "OK" + name
	}
	return name + " " + failed(err)
}

// isLet fails if Check does not let a program.
func isLet(t *testing.T, what string, p []api.Form) {
	t.Helper()
	if got := checked(p); got != "OK" {
		t.Errorf("Check %s: %s", what, got)
	}
}

// identical compares all fields of forms, the unused ones too.
func identical(a, b api.Form) bool {
	return a.Kind == b.Kind && a.N == b.N && a.Text == b.Text && slices.EqualFunc(a.Kids, b.Kids, identical)
}

// cloned are forms that share no Kids with those of l.
func cloned(l []api.Form) []api.Form {
	c := make([]api.Form, len(l))
	for i, f := range l {
		f.Kids = cloned(f.Kids)
		c[i] = f
	}
	return c
}

// world declares something of each kind.
const world = `(data L (a) (Nil) (Cons (head a) (tail (L a)))) (data P (a b) (Pair (fst a) (snd b)) (Flip (snd b) (fst a)) (Solo (fst a)))
	(data E () (One) (Two (num nat) (rest E))) (data K (a) (eq a) (Keys (ks (set a)))) (data Odd () (O1 (v int) (w int)) (O2 (v bool))) (data Q (a) (Q1 (same a)) (Q2 (same int)))
	(codata S (a) (More (now a) (next (S a))))
	(sub nat (n int) (<= 0 n) 0) (sub small (n nat) (< n 9) 0) (sub nats (s (seq nat)) true (empty (seq int))) (sub mc (c (maybe C)) true null) (sub oc (c C) true c) (sub le (l (L nat)) true (make Nil (of int)))
	(trait U () (field ux nat) (function uf () nat) (ghost (field ug bool)))
	(trait T (U) (field tx int) (function tf () (seq nat) (empty (seq int))) (method tm ((i nat)) ((r int)) (body (set r i))))
	(class C (T) (field x nat) (field o (maybe C)) (field d Odd) (ghost (field gx (L nat))) (function uf () nat 1) (function cf () small 1) (function cg ((i int)) int i) (predicate cp () true) (twostate ct () true)
		(method cm ((i nat) (j T)) ((r nat) (s C))) (lemma cl () ()) (ghost (method cn () ())))
	(class B () (field f (fun (int) int)) (field bx int)) (class A (T) (function uf () nat) (field tx int))
	(function id (tp a) ((x a)) a x) (function two (tp a b) ((x a) (y b)) (P a b) (make Pair x y)) (function both (tp a) ((x a) (y a)) a x) (function up ((x nat) (o (maybe T))) nat x) (function swap (tp a b) ((p (P a b))) (P b a)) (function lost (tp a) ((x int)) int x)
	(function mixed (tp a) ((x (seq a)) (n nat) (c T)) (map nat a) (empty (map int a))) (function none () small 1) (ghost (function gh ((x nat)) nat x))
	(predicate pr ((x nat)) true) (predicate pa (tp a) ((x a)) true) (twostate ts ((c C)) true) (least lst ((x nat)) true) (greatest gst () true)
	(method m ((x nat) (c T)) ((y nat) (z int))) (lemma lm ((x nat)) ()) (extern ex () ((r int))) (ghost (method gm ((o (maybe U))) ())) `

// locals are variables of types of the world.
const locals = `i int n nat m small b bool c C t T u U a A oc oc cm (maybe C) tm (maybe T) mc mc li (L int) ln (L nat) le le p (P int bool) pn (P nat nat) e E k (K int) odd Odd qi (Q int) qb (Q bool) si (S int)
	q (seq int) qn (seq nat) qs nats qc (seq C) qt (seq T) s (set int) sn (set nat) sc (set (maybe C)) g (bag int) gn (bag nat) h (map int bool) hn (map nat nat) hc (map C C) z (imap int bool) zn (imap nat nat)
	f (fun (int) bool) fk (fun (nat) nat) ff (fun () (maybe C)) fc (fun (C) T) w (bits 3) v (bits 4) own C `
