package typing_test

import (
	"strings"
	"testing"

	"plinth/api"
	"plinth/binder"
	"plinth/kind"
	"plinth/reader"
	"plinth/scope"
	"plinth/typing"
)

// made is an expression that a maker has made, without its signs, and the error
// and marks that these tell.
func (m *maker) made(want string, deep int) (e api.Form, t api.Form, err api.Errno, marks []typing.Mark) {
	s, t := m.expr(want, deep)
	s, err = signed(s)
	e, marks = stripped(form(s), nil)
	return e, t, err, marks
}

// P8.2, P8.3: made expressions have the types that they were made of, and these
// are let by layer 3.
func TestTypesByTheBook(t *testing.T) {
	p, vars := forms(world), varsOf(locals)
	rows := scope.Table(p)
	m := newMaker(1)
	sizes := 0
	for range 1200 {
		e, want, _, _ := m.made(m.whole(), 4)
		sizes += reader.Size(e)
		got, err := typing.Type(p, vars, "C", e)
		if told(got, err) != reader.Write(want) {
			t.Fatalf("Type %s: %s, not %s", reader.Write(e), told(got, err), reader.Write(want))
		}
		if kind.Check(got, rows) != api.OK {
			t.Fatalf("Type %s is %s, which is none", reader.Write(e), reader.Write(got))
		}
		if b := told(typing.Base(p, got)); b != reader.Write(base(want)) {
			t.Fatalf("Base of %s: %s", reader.Write(got), b)
		}
	}
	if sizes < 20000 {
		t.Errorf("too little was tried: %d parts", sizes)
	}
}

// P8.1: of made expressions in which something is wrong Type tells the first
// error.
func TestErrorsByTheBook(t *testing.T) {
	p, vars := forms(world), varsOf(locals)
	m := newMaker(2)
	counts := map[api.Errno]int{}
	for i := range 3000 {
		m.odds = []int{12, 30, 80}[i%3]
		e, want, wrong, _ := m.made(m.whole(), 4)
		counts[wrong]++
		expected := failed(wrong)
		if wrong == api.OK {
			expected = reader.Write(want)
		}
		if got := told(typing.Type(p, vars, "C", e)); got != expected {
			t.Fatalf("Type %s: %s, not %s", reader.Write(e), got, expected)
		}
	}
	if counts[api.OK] < 200 || counts[api.ErrName] < 200 || counts[api.ErrRange] < 100 || counts[api.ErrType] < 200 {
		t.Errorf("too little was tried: %v", counts)
	}
}

// paramsOf are variables as params.
func paramsOf(vars []typing.Var) api.Form {
	var l []api.Form
	for _, v := range vars {
		l = append(l, list(word(v.Name), v.Type))
	}
	return list(l...)
}

// P8.1, P8.2: made functions and methods are let, or the error is told, and their
// marks are those of what flows in them.
func TestMarksByTheBook(t *testing.T) {
	m := newMaker(3)
	tried := map[bool]int{}
	for i := range 500 {
		m.odds = []int{0, 12, 0}[(i/3)%3]
		asked := m.variant(form(m.whole()))
		s, sign := m.flow(asked, 3)
		condition, wrong, _ := m.operands(2, "bool")
		params, in := reader.Write(paramsOf(varsOf(locals))), reader.Write(asked)
		text := []string{
			"(class q (T) (function uf () nat) (function g " + params + " " + in + " (requires " + condition + wrong + ") " + s + sign + "))",
			"(class q (T) (function uf () nat) (method g " + params + " ((r0 " + in + ")) (body (assert " + condition + wrong + ") (set r0 " + s + ")" + sign + ")))",
			"(class q (T) (function uf () nat) (method g " + params + " ((b0 bool)) (body (var r0 bool) (var r0 " + in + " " + s + ")" + sign + " (set b0 " + condition + ")" + wrong + ")))",
		}[i%3]
		if strings.Contains(text, "@") { // scope has it
			continue
		}
		text, err := signed(text)
		decl, marks := stripped(forms(text)[0], nil)
		p := append(forms(world), decl)
		want := "OK"
		if err != api.OK {
			want = "q " + failed(err)
		}
		tried[err == api.OK]++
		if got := checked(p); got != want {
			t.Fatalf("Check %s: %s, not %s", text, got, want)
		}
		expected := marksText(marks, api.OK)
		if err != api.OK {
			expected = failed(err)
		}
		if got := marksText(typing.Marks(p, "q")); got != expected {
			t.Fatalf("Marks of %s: %s, not %s", text, got, expected)
		}
	}
	if tried[true] < 250 || tried[false] < 50 {
		t.Errorf("too little was tried: %v", tried)
	}
}

// P8.3: with variables replaced by expressions whose types fit, a type fits where
// the old one did.
func TestReplacedFits(t *testing.T) {
	p, vars := forms(world), varsOf(locals)
	m := newMaker(4)
	changed := 0
	for range 500 {
		e, want, _, _ := m.made(m.whole(), 4)
		free, _ := binder.Free(e)
		var by []binder.Pair
		for _, v := range vars {
			if m.below(2) == 0 || strings.Contains(" u a tm k odd qi qb si v ", " "+v.Name+" ") {
				continue
			}
			to, _, _, _ := m.made(reader.Write(base(v.Type)), 1)
			by = append(by, binder.Pair{Name: v.Name, To: to})
		}
		f, err := binder.Replace(e, by)
		if err != api.OK {
			t.Fatalf("Replace in %s: error %d", reader.Write(e), err)
		}
		if len(free) > 0 && !reader.Equal(e, f) {
			changed++
		}
		got, err := typing.Type(p, vars, "C", f)
		if fits, _ := typing.Fits(p, got, want); err != api.OK || !fits {
			t.Fatalf("Type %s of %s: %s, not %s", reader.Write(f), reader.Write(e), told(got, err), reader.Write(want))
		}
	}
	if changed < 250 {
		t.Errorf("too little was tried: %d", changed)
	}
}

// parts are all parts of forms.
func parts(l []api.Form) []api.Form {
	var all []api.Form
	for _, f := range l {
		all = append(append(all, f), parts(f.Kids)...)
	}
	return all
}

// grafted is a form with one of its parts replaced by another form.
func (m *maker) grafted(f, by api.Form) api.Form {
	var path []int
	for at := f; len(at.Kids) > 0 && (len(path) == 0 || m.below(5) > 0); {
		i := m.below(len(at.Kids))
		path, at = append(path, i), at.Kids[i]
	}
	g, _ := reader.Put(f, path, by)
	return g
}

// R1, P8.1: programs in which something stands at a place where something else
// stood are let or not, but end with an answer. What Check lets, Marks lets too.
func TestGrafted(t *testing.T) {
	m := newMaker(5)
	whole := forms(world + `(method q ((i int) (c C) (li (L int))) ((r nat) (b bool) (co C)) (body (var v int 1) (while (< v i) ((decreases (- i v))) (set v (+ v 1))) (new co C (x i)) (store c x v) (call () lm 1) (send (r co) c cm 1 c) (case li (Nil ()) (Cons (h t) (set r h)))
		(choose v 0 i (< v 1)) (each (x 0 i) (store c x x)) (lemma (x 0 i) (requires b) lm x) (calc v (= i (by (leave))) (< r))))
		(function tpd (tp E C nat) ((x E) (y C) (z nat)) E (requires (= (seq y) (seq y))) (match x (One () (call id x))))`)
	let, typed := 0, 0
	for range 2500 {
		at := m.below(3)
		if at < 2 {
			at = len(whole) - 1 - at
		} else {
			at = m.below(len(whole))
		}
		pieces := parts(whole[at : at+1])
		p := append([]api.Form(nil), whole...)
		p[at] = m.grafted(whole[at], pieces[m.below(len(pieces))])
		if _, err := scope.Check(p); err != api.OK {
			continue
		}
		let++
		name, err := typing.Check(p)
		if err == api.OK {
			typed++
		}
		of := p[at].Kids[1].Text
		if p[at].Kids[0].Text == "ghost" {
			of = p[at].Kids[1].Kids[1].Text
		}
		marks, wrong := typing.Marks(p, of)
		if wrong != api.OK && (err == api.OK || len(marks) > 0) || wrong == api.OK && of == name {
			t.Fatalf("Marks of %s: error %d, Check: error %d at %s, in %s", of, wrong, err, name, written(p[at]))
		}
		if _, err := typing.Locals(p, of); err != api.OK {
			t.Fatalf("Locals of %s: error %d", of, err)
		}
		e, _, _, _ := m.made(m.whole(), 2)
		e = m.grafted(e, pieces[m.below(len(pieces))])
		if got, err := typing.Type(p, varsOf("i int c C b bool n nat li (L int)"), "C", e); err == api.OK && reader.Write(got) != "null" && kind.Check(got, scope.Table(p)) != api.OK {
			t.Fatalf("Type %s: %s", written(e), written(got))
		}
	}
	if let < 200 || typed < 80 || let-typed < 50 {
		t.Errorf("too little was tried: %d are let, %d well typed", let, typed)
	}
}
