package kind_test

import (
	"slices"
	"testing"

	"plinth/api"
	"plinth/kind"
	"plinth/reader"
)

// The words and the names of made types. Some names are variables, too.
const (
	words  = "int bool D a b c d"
	heads  = "L a b"
	all    = "a b c d"
	ground = "int bool D"
)

// differ are the first parts, from the front, in which two types differ; false,
// if they are equal. In a fun's arguments a word that is first is no head. Lists
// of unlike lengths differ as a whole, but behind the Kids that both have.
func differ(a, b api.Form, arguments bool) (api.Form, api.Form, bool) {
	if a.Kind != api.List || b.Kind != api.List {
		return a, b, !reader.Equal(a, b)
	}
	for i := range min(len(a.Kids), len(b.Kids)) {
		if i == 0 && !arguments && a.Kids[0].Kind == api.Word {
			if !reader.Equal(a.Kids[0], b.Kids[0]) {
				return a, b, true // as lists: a head is never replaced
			}
			continue
		}
		if x, y, ok := differ(a.Kids[i], b.Kids[i], i == 1 && !arguments && reader.Head(a) == "fun"); ok {
			return x, y, true
		}
	}
	return a, b, len(a.Kids) != len(b.Kids)
}

// stands tells whether a variable stands in a type.
func stands(x string, t api.Form) bool {
	return !reader.Equal(t, kind.Apply(t, []kind.Pair{{Name: x, To: word("int")}}))
}

// robinson unifies types in the way that the books have it: again and again
// it replaces the variable at the first place in which the types differ.
func robinson(a, b []api.Form, vars []string) ([]kind.Pair, api.Errno) {
	by := map[string]api.Form{}
	replace := func(l []api.Form, x string, to api.Form) {
		for i := range l {
			l[i] = kind.Apply(l[i], []kind.Pair{{Name: x, To: to}})
		}
	}
	a, b = slices.Clone(a), slices.Clone(b)
	for i := 0; i < min(len(a), len(b)); {
		x, to, found := differ(a[i], b[i], false)
		if !found {
			i++
			continue
		}
		if x.Kind != api.Word || !slices.Contains(vars, x.Text) {
			x, to = to, x
		}
		if x.Kind != api.Word || !slices.Contains(vars, x.Text) {
			return nil, api.ErrType
		}
		if stands(x.Text, to) {
			return nil, api.ErrLoop
		}
		replace(a, x.Text, to)
		replace(b, x.Text, to)
		for name, t := range by {
			by[name] = kind.Apply(t, []kind.Pair{{Name: x.Text, To: to}})
		}
		by[x.Text] = to
	}
	if len(a) != len(b) {
		return nil, api.ErrType
	}
	var out []kind.Pair
	for _, name := range []string{"a", "b", "c", "d"} {
		if to, ok := by[name]; ok {
			out = append(out, kind.Pair{Name: name, To: to})
		}
	}
	return out, api.OK
}

// several are a few made types.
func (d *dice) several(n, depth int) []api.Form {
	var l []api.Form
	for range n {
		l = append(l, d.kind(depth, words, heads))
	}
	return l
}

// P3.2, P3.3: Unify does what the books say, step by step, and Apply of it
// makes the types equal.
func TestUnifyMade(t *testing.T) {
	d := dice(1)
	told := map[api.Errno]int{}
	for range 30000 {
		n := 1 + d.below(3)
		a, b := d.several(n, 1+d.below(4)), d.several(n, 1+d.below(4))
		if d.below(4) == 0 {
			a = a[:d.below(n+1)]
		}
		vars := []string{"a", "b", "c", "d"}[:d.below(5)]
		got, err := kind.UnifyAll(a, b, vars)
		want, wantErr := robinson(a, b, vars)
		if err != wantErr {
			t.Fatalf("%q and %q: error %d, want %d", reader.WriteAll(a), reader.WriteAll(b), err, wantErr)
		}
		same(t, reader.WriteAll(a)+reader.WriteAll(b), got, want)
		told[err]++
		for i := range a {
			if err == api.OK && !reader.Equal(kind.Apply(a[i], got), kind.Apply(b[i], got)) {
				t.Fatalf("%s and %s are not equal", reader.Write(a[i]), reader.Write(b[i]))
			}
		}
	}
	for _, err := range []api.Errno{api.OK, api.ErrType, api.ErrLoop} {
		if told[err] < 500 {
			t.Errorf("only %d made types have the error %d", told[err], err)
		}
	}
}

// loosen is a type in which some parts are variables that stand for them.
func (d *dice) loosen(t api.Form, by []kind.Pair) api.Form {
	for _, pair := range by {
		if reader.Equal(pair.To, t) && d.below(3) > 0 {
			return word(pair.Name)
		}
	}
	if t.Kind != api.List {
		return t
	}
	out := list()
	for i, kid := range t.Kids {
		switch {
		case i == 0 || t.Kids[0].Text == "maybe":
		case i == 1 && t.Kids[0].Text == "fun":
			kid = clone(kid)
			for j := range kid.Kids {
				kid.Kids[j] = d.loosen(kid.Kids[j], by)
			}
		default:
			kid = d.loosen(kid, by)
		}
		out.Kids = append(out.Kids, kid)
	}
	return out
}

// P3.3: if any substitution makes types equal, Unify finds one, of which this
// one is an instance.
func TestUnifyFinds(t *testing.T) {
	d := dice(2)
	vars := names(all)
	bound := 0
	for range 10000 {
		whole := list(word("Q"))
		var by []kind.Pair
		for _, x := range vars {
			part := d.kind(1+d.below(3), ground, "L")
			whole.Kids = append(whole.Kids, list(word("L"), part), d.kind(3, ground, "L"))
			by = append(by, kind.Pair{Name: x, To: part})
		}
		a, b := d.loosen(whole, by), d.loosen(whole, by)
		if !reader.Equal(kind.Apply(a, by), kind.Apply(b, by)) {
			t.Fatalf("%s and %s: the test is wrong", reader.Write(a), reader.Write(b))
		}
		got, err := kind.Unify(a, b, vars)
		if err != api.OK {
			t.Fatalf("%s and %s: error %d", reader.Write(a), reader.Write(b), err)
		}
		bound += len(got)
		// What is put in behind got is by again.
		same(t, reader.Write(a)+reader.Write(b), kind.Compose(got, by), by)
	}
	if bound < 10000 {
		t.Errorf("only %d pairs", bound)
	}
}

// P3.2: the result is written out: ascending, no variable of it in its types.
func TestUnifyIsWrittenOut(t *testing.T) {
	d := dice(3)
	for range 20000 {
		a, b := d.several(2, 3), d.several(2, 3)
		got, _ := kind.UnifyAll(a, b, names(all))
		for i, pair := range got {
			if i > 0 && got[i-1].Name >= pair.Name {
				t.Fatalf("%q: not ascending", told(got))
			}
			if slices.ContainsFunc(got, func(other kind.Pair) bool { return stands(pair.Name, other.To) }) {
				t.Fatalf("%q: %s stands in its types", told(got), pair.Name)
			}
		}
	}
}

// P3.3: Apply of Compose is Apply of the second one of Apply of the first one,
// also where some pairs are of reserved words.
func TestComposeMade(t *testing.T) {
	d := dice(4)
	for range 20000 {
		first, then := d.by(all+" int seq", heads), d.by(all+" int seq", heads)
		both := kind.Compose(first, then)
		for range 3 {
			f := d.kind(4, words, heads)
			want := kind.Apply(kind.Apply(f, first), then)
			if got := kind.Apply(f, both); !identical(got, want) {
				t.Fatalf("Compose %q, %q: %s becomes %s, want %s", told(first), told(then), reader.Write(f), reader.Write(got), reader.Write(want))
			}
		}
		for i, pair := range both {
			if i > 0 && both[i-1].Name >= pair.Name || reader.Equal(pair.To, word(pair.Name)) || !slices.Contains(names(all), pair.Name) {
				t.Fatalf("Compose %q, %q: %q", told(first), told(then), told(both))
			}
		}
	}
}

// P3.2: Compose of what some types ask for, and of what the others then ask
// for, is what all of them ask for: written out, if both are.
func TestComposeOfUnify(t *testing.T) {
	d := dice(5)
	good := 0
	for range 20000 {
		a, b := d.several(2, 1+d.below(3)), d.several(2, 1+d.below(3))
		whole, err := kind.UnifyAll(a, b, names(all))
		if err != api.OK {
			continue
		}
		good++
		first, err := kind.Unify(a[0], b[0], names(all))
		then, err2 := kind.Unify(kind.Apply(a[1], first), kind.Apply(b[1], first), names(all))
		if err != api.OK || err2 != api.OK {
			t.Fatalf("%q and %q: errors %d, %d", reader.WriteAll(a), reader.WriteAll(b), err, err2)
		}
		same(t, reader.WriteAll(a)+reader.WriteAll(b), kind.Compose(first, then), whole)
	}
	if good < 1000 {
		t.Errorf("only %d made types are unified", good)
	}
}

// P3.3: Instance tells a substitution that does it, and none only if there is
// none. Reserved words among the variables change nothing.
func TestInstanceMade(t *testing.T) {
	d := dice(6)
	good := 0
	for range 20000 {
		of, by := d.kind(4, words, heads), d.by(all, heads)
		for _, f := range []api.Form{kind.Apply(of, by), d.kind(3, words, heads)} {
			got, ok := kind.Instance(of, f, names(all+" int bool"))
			if ok && !reader.Equal(kind.Apply(of, got), f) {
				t.Fatalf("Instance %s of %s: %q", reader.Write(f), reader.Write(of), told(got))
			}
			// Other names for the variables of the second type make them apart.
			apart := kind.Apply(f, pairs("a A b B c C d E"))
			unified, err := kind.Unify(of, apart, names(all))
			if (err == api.OK) != ok || len(got) != len(unified) {
				t.Fatalf("Instance %s of %s: %v, but Unify has error %d", reader.Write(f), reader.Write(of), ok, err)
			}
			for _, pair := range got {
				if !stands(pair.Name, of) {
					t.Fatalf("Instance %s of %s: %q", reader.Write(f), reader.Write(of), told(got))
				}
			}
			if ok {
				good++
			}
		}
	}
	if good < 20000 {
		t.Errorf("only %d instances", good)
	}
}

// P3.3: Variance goes through: of a in t, and of b in what a becomes.
func TestVarianceMade(t *testing.T) {
	d := dice(7)
	met := map[int]int{}
	for range 20000 {
		outer := d.kind(4, "int a c", "L b")
		inner := d.kind(4, "int b c", "L a")
		v, w := kind.Variance(outer, "a"), kind.Variance(inner, "b")
		want := v * w
		if want != 0 && (v == 2 || w == 2) {
			want = 2
		}
		got := kind.Variance(kind.Apply(outer, []kind.Pair{{Name: "a", To: inner}}), "b")
		if got != want {
			t.Fatalf("a in %s: %d, b in %s: %d, b in both: %d", reader.Write(outer), v, reader.Write(inner), w, got)
		}
		if (v == 0) == stands("a", outer) {
			t.Fatalf("a in %s: %d", reader.Write(outer), v)
		}
		argument := list(word("fun"), list(list(word("fun"), list(inner), word("int"))), word("int"))
		if kind.Variance(argument, "b") != w {
			t.Fatalf("b in an argument of an argument: %s", reader.Write(argument))
		}
		met[got]++
	}
	for _, v := range []int{0, 1, -1, 2} {
		if met[v] < 100 {
			t.Errorf("only %d made types have the variance %d", met[v], v)
		}
	}
}

// P3.3: what Check lets has comparable parts in sets, bags and as keys. And
// P3.2: what a comparable type has in it is comparable, or stands in a maybe.
func TestComparableMade(t *testing.T) {
	d := dice(8)
	comparable, let := 0, 0
	for range 30000 {
		f := d.kind(4, "int D Dn O C nat odd a b e", "L Ln S")
		if kind.Check(f, table()) != api.OK {
			continue
		}
		let++
		askComparable(t, f)
		if kind.Comparable(f, table()) {
			comparable++
		}
	}
	if comparable < 1000 || let-comparable < 1000 {
		t.Errorf("only %d of %d made types are comparable", comparable, let)
	}
}

// askComparable asks the parts of a type that is let.
func askComparable(t *testing.T, f api.Form) {
	t.Helper()
	parts := []api.Form{}
	if f.Kind == api.List {
		parts = f.Kids[1:]
	}
	head := reader.Head(f)
	switch head {
	case "bits", "maybe":
		return
	case "fun":
		parts = append(slices.Clone(f.Kids[1].Kids), f.Kids[2])
	case "set", "bag", "map", "imap":
		if !kind.Comparable(parts[0], table()) {
			t.Fatalf("%s has parts that are not comparable", reader.Write(f))
		}
	}
	every := true
	for _, part := range parts {
		if err := kind.Check(part, table()); err != api.OK {
			t.Fatalf("%s in %s: error %d", reader.Write(part), reader.Write(f), err)
		}
		every = every && kind.Comparable(part, table())
		askComparable(t, part)
	}
	want := every && head != "fun" && head != "imap" && head != "S" && head != "Ln"
	if got := kind.Comparable(f, table()); len(parts) > 0 && got != want {
		t.Fatalf("Comparable %s: %v", reader.Write(f), got)
	}
}

// P3.2: a type that is let stays let, where its variables become types that
// are let, and comparable where they must be.
func TestApplyMade(t *testing.T) {
	d := dice(9)
	good := 0
	for range 20000 {
		f := d.kind(4, "int D C nat b", "L")
		to := d.kind(3, "int D C nat b", "L")
		if kind.Check(f, table()) != api.OK || !kind.Comparable(to, table()) {
			continue
		}
		good++
		g := kind.Apply(f, []kind.Pair{{Name: "b", To: to}})
		if err := kind.Check(g, table()); err != api.OK {
			t.Fatalf("%s with %s: error %d", reader.Write(f), reader.Write(to), err)
		}
		for _, name := range kind.Names(g) {
			if !slices.Contains(kind.Names(f), name) && !slices.Contains(kind.Names(to), name) {
				t.Fatalf("%s with %s: %s is new", reader.Write(f), reader.Write(to), name)
			}
		}
	}
	if good < 1000 {
		t.Errorf("only %d made types", good)
	}
}

// R5: arguments are not changed. R9: what was called before changes nothing.
func TestArgumentsStay(t *testing.T) {
	d := dice(10)
	for range 2000 {
		a, b := d.kind(4, words, heads), d.kind(4, words, heads)
		first, then := d.by(all, heads), d.by(all, heads)
		vars, rows := names(all), table()
		l := []api.Form{a, b, list(), list()}
		for _, pair := range first {
			l[2].Kids = append(l[2].Kids, pair.To)
		}
		for _, pair := range then {
			l[3].Kids = append(l[3].Kids, pair.To)
		}
		before, firstBefore, thenBefore := clone(list(l...)), told(first), told(then)
		once := every(a, b, first, then, vars, rows)
		every(b, a, then, first, vars[1:], rows[1:])
		if again := every(a, b, first, then, vars, rows); !slices.Equal(once, again) {
			t.Fatalf("%q, and then %q", once, again)
		}
		if !identical(before, list(l...)) || told(first) != firstBefore || told(then) != thenBefore || !slices.Equal(vars, names(all)) || !slices.Equal(rows, table()) {
			t.Fatalf("%s and %s: arguments are changed", reader.Write(a), reader.Write(b))
		}
	}
}

// every calls each function, and tells the results.
func every(a, b api.Form, first, then []kind.Pair, vars []string, rows []kind.Row) []string {
	unified, err := kind.Unify(a, b, vars)
	instance, ok := kind.Instance(a, b, vars)
	out := []string{told(unified), told(instance), told(kind.Compose(first, then)), reader.Write(kind.Apply(a, first))}
	out = append(out, kind.Names(a)...)
	for _, what := range []bool{err == api.OK, err == api.ErrType, ok, kind.Check(a, rows) == api.OK, kind.Comparable(a, rows), kind.Ready(a, rows), kind.Variance(a, "a") == 1, kind.Variance(a, "a") == -1} {
		out = append(out, map[bool]string{true: "yes", false: "no"}[what])
	}
	return out
}
