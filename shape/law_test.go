package shape_test

import (
	"slices"
	"strconv"
	"testing"

	"plinth/api"
	"plinth/reader"
	"plinth/shape"
)

// P4.1: what is made by the book is what it was made as, and what is changed
// then at some place is what the book says of it.
func TestByTheBook(t *testing.T) {
	m := &maker{grammar: readBook(), dice: 1}
	counts := map[api.Errno]int{}
	for range 6000 {
		letter := []string{"E", "R", "D"}[m.below(3)]
		f := m.form(word(letter), 2+m.below(3))
		if !reader.Valid(f) || reader.Size(f) > 300 {
			continue
		}
		m.holdAgainst(t, f, counts)
		if counts[api.OK] == 0 {
			t.Fatalf("not let: %s", reader.Write(f))
		}
		for range 4 {
			m.holdAgainst(t, m.changed(f), counts)
		}
	}
	for _, err := range []api.Errno{api.OK, api.ErrForm, api.ErrDup} {
		if counts[err] < 40 {
			t.Errorf("error %d: told %d times alone", err, counts[err])
		}
	}
}

// holdAgainst fails where one of the questions is answered otherwise than by the
// book, which knows of nothing that stands twice.
func (m *maker) holdAgainst(t *testing.T, f api.Form, counts map[api.Errno]int) {
	t.Helper()
	twice := hasTwice(f)
	for i, q := range questions() {
		got := q.ask(f)
		counts[got]++
		fits := m.matches(word([]string{"E", "R", "D"}[i]), f)
		switch {
		case got == api.ErrDup && twice:
		case fits && got != api.OK, !fits && got != api.ErrForm:
			t.Fatalf("%s %s: error %d, by the book: %v", q.name, reader.Write(f), got, fits)
		}
	}
}

// hasTwice tells whether a form has a list in which two Kids have one label, or
// params and results that have.
func hasTwice(f api.Form) bool {
	if labelledTwice(f.Kids) || len(f.Kids) > 3 && labelledTwice(slices.Concat(f.Kids[2].Kids, f.Kids[3].Kids)) {
		return true
	}
	return slices.ContainsFunc(f.Kids, hasTwice)
}

func labelledTwice(l []api.Form) bool {
	seen := map[string]bool{}
	for _, f := range l {
		name := label(f)
		if name != "" && seen[name] {
			return true
		}
		seen[name] = true
	}
	return false
}

// label is a word, the head of a list, and the name of a member.
func label(f api.Form) string {
	switch head := reader.Head(f); head {
	case "ghost", "field", "function", "predicate", "twostate", "method", "lemma":
		if len(f.Kids) > 1 {
			return label(f.Kids[1])
		}
	case "":
		if f.Kind == api.Word {
			return f.Text
		}
	default:
		return head
	}
	return ""
}

// changed is a form that differs at one place.
func (m *maker) changed(f api.Form) api.Form {
	path := m.path(f)
	part, _ := reader.At(f, path)
	other := []api.Form{num(3), num(-1), text("x"), list(), word("x"), word("result"), word("while"), word("by"), list(word("foo")), list(word("by")), list(word("leave")), list(word("requires"), num(1)), list(word("decreases")), list(word("fuel"), num(1)), list(word("x"), word("int")), list(word("tp"), word("a")), list(word("of"), word("a"))}
	switch kids := slices.Clone(part.Kids); {
	case len(kids) == 0 || m.below(3) == 0:
		part = other[m.below(len(other))]
	case m.below(3) == 0:
		part = list(slices.Delete(kids, m.below(len(kids)), len(kids))...)
	default:
		at := m.below(len(kids))
		switch m.below(6) {
		case 0:
			part = list(slices.Delete(kids, at, at+1)...)
		case 1, 2, 3:
			part = list(slices.Insert(kids, at, kids[m.below(len(kids))])...)
		case 4:
			part = list(slices.Insert(kids, at, other[m.below(len(other))])...)
		default:
			to := m.below(len(kids))
			kids[at], kids[to] = kids[to], kids[at]
			part = list(kids...)
		}
	}
	g, err := reader.Put(f, path, part)
	if err != api.OK {
		return f
	}
	return g
}

// path is one of some part of a form.
func (m *maker) path(f api.Form) []int {
	var path []int
	for len(f.Kids) > 0 && m.below(5) > 0 {
		i := m.below(len(f.Kids))
		path = append(path, i)
		f = f.Kids[i]
	}
	return path
}

// P4.3: what Decl lets has a Name; each Kid of an expression is one; a form is
// at most one of an expression and a declaration.
func TestConsequences(t *testing.T) {
	m := &maker{grammar: readBook(), dice: 2}
	for range 4000 {
		f := m.form(word([]string{"E", "R", "D"}[m.below(3)]), 3)
		isExpr, isDecl := shape.Expr(f) == api.OK, shape.Decl(f) == api.OK
		if isExpr && isDecl {
			t.Fatalf("an expression and a declaration: %s", reader.Write(f))
		}
		if isDecl != shape.IsName(shape.Name(f)) {
			t.Fatalf("Name %q of %s", shape.Name(f), reader.Write(f))
		}
		kids, err := shape.Kids(f)
		if isExpr != (err == api.OK) || !slices.IsSorted(kids) {
			t.Fatalf("Kids of %s: %v, error %d", reader.Write(f), kids, err)
		}
		for _, i := range kids {
			if err := shape.Expr(f.Kids[i]); err != api.OK {
				t.Fatalf("Kid %d of %s: error %d", i, reader.Write(f), err)
			}
			// And nothing but expressions may stand there.
			g, _ := reader.Put(f, []int{i}, list(word("if"), word("a"), num(1), num(2)))
			none, _ := reader.Put(f, []int{i}, text("x"))
			if shape.Expr(g) != api.OK || shape.Expr(none) != api.ErrForm {
				t.Fatalf("Kid %d of %s", i, reader.Write(f))
			}
		}
	}
}

// P4.2: a declaration that is put together of made parts is told to have them.
func TestPartsTogether(t *testing.T) {
	m := &maker{grammar: readBook(), dice: 3}
	part := func(pattern string) api.Form { return m.form(form(pattern), 3) }
	for range 2000 {
		head := []string{"function", "predicate", "twostate", "method", "lemma", "extern"}[m.below(6)]
		isMethod := slices.Contains([]string{"method", "lemma", "extern"}, head)
		params, results, clauses := part("((X T) ..)"), list(), part("(F ..)")
		if isMethod {
			results, clauses = part("((X T) ..)"), part("(K ..)")
		}
		kids := []api.Form{word(head), part("X")}
		if m.below(2) == 0 && (head == "function" || head == "predicate") {
			kids = append(kids, part("(tp X .+)"))
		}
		kids = append(kids, params)
		if isMethod {
			kids = append(kids, results)
		} else if head == "function" {
			kids = append(kids, part("T"))
		}
		kids = append(kids, clauses.Kids...)
		by, hasBy, body, hasBody := list(), !isMethod && m.below(2) == 0, part("E"), m.below(2) == 0
		if isMethod {
			body = part("(body S ..)")
		}
		if hasBy {
			by, hasBody = part("(by R ..)"), true
			kids = append(kids, by)
		}
		if hasBody {
			kids = append(kids, body)
		}
		d := list(kids...)
		if m.below(2) == 0 && (head == "function" || head == "predicate" || head == "method") {
			d = list(word("ghost"), d)
		}
		if err := shape.Decl(d); err != api.OK {
			t.Fatalf("Decl %s: error %d", reader.Write(d), err)
		}
		gotBody, okBody := shape.Body(d)
		gotBy, okBy := shape.By(d)
		same := shape.Name(d) == kids[1].Text && slices.EqualFunc(shape.Params(d), params.Kids, identical) && slices.EqualFunc(shape.Results(d), results.Kids, identical) &&
			okBody == hasBody && (!okBody || identical(gotBody, body)) && okBy == hasBy && (!okBy || slices.EqualFunc(gotBy, by.Kids[1:], identical))
		for _, head := range shape.Reserved() {
			var want []api.Form
			for _, clause := range clauses.Kids {
				if reader.Head(clause) == head {
					want = append(want, clause.Kids[1:]...)
				}
			}
			same = same && slices.EqualFunc(shape.Clause(d, head), want, identical)
		}
		if !same {
			t.Fatalf("the parts of %s", reader.Write(d))
		}
	}
}

// R1: the greatest forms that are valid, of all Kinds.
func TestGreatForms(t *testing.T) {
	pairs := list()
	for i := range 4900 {
		pairs.Kids = append(pairs.Kids, list(word("n"+strconv.Itoa(i)), word("int")))
	}
	twice := list(append(slices.Clone(pairs.Kids), pairs.Kids[0])...)
	for _, c := range []struct {
		f    api.Form
		want api.Errno
	}{
		{repeat("and", api.MaxForm-2, num(1)), api.OK}, {repeat("seq", 6000, list(word("neg"), num(1))), api.OK}, {list(word("fn"), pairs, num(1)), api.OK}, {list(word("fn"), twice, num(1)), api.ErrDup},
		{nest(api.MaxDeep-1, "not", word("x")), api.OK}, {nest(api.MaxDeep-1, "not", list()), api.ErrForm}, {nest(api.MaxDeep-2, "seq", text("x")), api.ErrForm},
	} {
		if got := shape.Expr(c.f); got != c.want {
			t.Errorf("Expr %s ..: error %d, want %d", reader.Head(c.f), got, c.want)
		}
	}
	if err := shape.Stmt(repeat("block", 9000, list(word("leave")))); err != api.OK {
		t.Errorf("Stmt: error %d", err)
	}
	if err := shape.Decl(list(word("method"), word("m"), pairs, list())); err != api.OK {
		t.Errorf("Decl: error %d", err)
	}
	if got := shape.Calls(nest(20000, "neg", list(word("call"), word("f")))); !slices.Equal(got, []string{"f"}) {
		t.Errorf("Calls: %q", got)
	}
}
