package binder_test

import (
	"maps"
	"slices"
	"strings"
	"testing"

	"plinth/api"
	"plinth/binder"
	"plinth/reader"
	"plinth/shape"
)

// back is the form that a row stands for.
func back(letter string, row []api.Form) api.Form {
	if letter == "s" {
		return list(row...)
	}
	return row[0]
}

// sorted are the names of a set.
func sorted(names set) string {
	return strings.Join(slices.Sorted(maps.Keys(names)), " ")
}

// replaced is what the book says of Replace.
func (m *maker) replaced(letter string, row []api.Form, by []binder.Pair) (f api.Form, err api.Errno) {
	defer func() {
		if stopped := recover(); stopped != nil {
			f, err = api.Form{}, stopped.(api.Errno)
		}
	}()
	all := map[string]api.Form{}
	for _, p := range by {
		if !reader.Equal(p.To, word(p.Name)) {
			all[p.Name] = p.To
		}
	}
	return back(letter, m.replace(letter, row, all)), api.OK
}

// levels is a row whose bound names are the same just if it is alike.
func (m *maker) levels(letter string, row []api.Form) api.Form {
	return back(letter, m.numbered(letter, row, "#", set{}))
}

// P5.2: of made forms each function tells what the book says.
func TestByTheBook(t *testing.T) {
	m := &maker{grammar: readBook(), dice: 5}
	errors, renamed := map[api.Errno]int{}, 0
	for range 4000 {
		f, letter, row := m.whole()
		text := reader.Write(f)
		free, bound, assigned, counts := m.free(letter, row), set{}, set{}, map[string]int{}
		m.eachBound(letter, row, func(name string) { bound[name] = true })
		m.eachUse(letter, row, set{}, func(name string, isAssigned, isFree bool) {
			if isFree {
				counts[name]++
				assigned[name] = assigned[name] || isAssigned
			}
		})
		maps.DeleteFunc(assigned, func(_ string, is bool) bool { return !is })
		if got := named(binder.Free(f)); got != sorted(free) {
			t.Fatalf("Free %s: %s", text, got)
		}
		if got := named(binder.Bound(f)); got != sorted(bound) {
			t.Fatalf("Bound %s: %s", text, got)
		}
		if got := named(binder.Assigned(f)); got != sorted(assigned) {
			t.Fatalf("Assigned %s: %s", text, got)
		}
		for _, name := range append([]string{"result", "_", "this"}, pool...) {
			if got, err := binder.Count(f, name); got != counts[name] || err != api.OK {
				t.Fatalf("Count of %s in %s: %d, error %d", name, text, got, err)
			}
		}
		if got, want := told(binder.Normal(f)), reader.Write(back(letter, m.numbered(letter, row, "v_", free))); got != want {
			t.Fatalf("Normal %s:\n got %s\nwant %s", text, got, want)
		}
		by := m.pairs()
		want, err := m.replaced(letter, row, by)
		errors[err]++
		if got := told(binder.Replace(f, by)); got != told(want, err) {
			t.Fatalf("Replace %s by %s:\n got %s\nwant %s", text, written(by), got, told(want, err))
		}
		if err == api.OK && reader.Size(want) == reader.Size(f) && sorted(m.words(letter, row)) != "" {
			renamed++
		}
	}
	if errors[api.OK] < 2000 || errors[api.ErrType] < 50 || renamed < 500 {
		t.Errorf("too little was tried: %v, %d", errors, renamed)
	}
}

// other is a form that may be alike: with other names at its binders, whether
// or not what they hold is still the same, or with another name somewhere.
func (m *maker) other(f api.Form, letter string, row []api.Form) api.Form {
	g := back(letter, m.renamed(letter, row, map[string]api.Form{}, func(name string) string {
		if m.below(2) == 0 {
			return name
		}
		return m.name().Text
	}))
	if m.below(3) == 0 {
		g = f
	}
	if m.below(2) > 0 {
		return g
	}
	var path []int
	part := g
	for len(part.Kids) > 0 {
		path = append(path, m.below(len(part.Kids)))
		part = part.Kids[path[len(path)-1]]
	}
	if part.Kind == api.Word && shape.IsName(part.Text) {
		g, _ = reader.Put(g, path, m.name())
	}
	return g
}

// P5.2, P5.3: Alike is what the book says, of forms that are nearly the same. It
// is an equivalence; forms are alike just if they have one Normal; Replace of
// alike forms are alike.
func TestAlikeForms(t *testing.T) {
	m := &maker{grammar: readBook(), dice: 6}
	told := map[bool]int{}
	for range 1200 {
		f, letter, row := m.whole()
		family := []api.Form{f}
		for range 3 {
			g := m.other(f, letter, row)
			if _, err := binder.Free(g); err == api.OK {
				family = append(family, g)
			}
		}
		by := m.pairs()
		alike := func(a, b api.Form) bool {
			is, err := binder.Alike(a, b)
			if err != api.OK {
				t.Fatalf("Alike %s and %s: error %d", reader.Write(a), reader.Write(b), err)
			}
			return is
		}
		for _, a := range family {
			for _, b := range family {
				want := reader.Equal(m.levels(letter, rowOf(letter, a)), m.levels(letter, rowOf(letter, b)))
				got := alike(a, b)
				if got != want || got != alike(b, a) {
					t.Fatalf("Alike %s and %s: %v", reader.Write(a), reader.Write(b), got)
				}
				normalA, _ := binder.Normal(a)
				normalB, _ := binder.Normal(b)
				if got != reader.Equal(normalA, normalB) || !alike(a, normalA) {
					t.Fatalf("Normal of %s and %s", reader.Write(a), reader.Write(b))
				}
				if !identical(a, b) {
					told[got]++
				}
				for _, c := range family {
					if got && alike(b, c) && !alike(a, c) {
						t.Fatalf("alike one by one: %s, %s, %s", reader.Write(a), reader.Write(b), reader.Write(c))
					}
				}
				m.replaceAlike(t, a, b, by, got)
			}
		}
	}
	if told[true] < 300 || told[false] < 300 {
		t.Errorf("too little was tried: %v", told)
	}
}

// rowOf is a form as the row that stands for it.
func rowOf(letter string, f api.Form) []api.Form {
	if letter == "s" {
		return f.Kids
	}
	return []api.Form{f}
}

// replaceAlike fails where Replace of forms that are alike is not.
func (m *maker) replaceAlike(t *testing.T, a, b api.Form, by []binder.Pair, areAlike bool) {
	t.Helper()
	if !areAlike {
		return
	}
	newA, errA := binder.Replace(a, by)
	newB, errB := binder.Replace(b, by)
	if errA != errB {
		t.Fatalf("Replace %s and %s by %s: error %d, error %d", reader.Write(a), reader.Write(b), written(by), errA, errB)
	}
	// Two names may become one that a statement assigns twice: that is no
	// statement any more, so nothing is told of it.
	is, err := binder.Alike(newA, newB)
	if _, none := binder.Free(newA); errA == api.OK && none == api.OK && (err != api.OK || !is) {
		t.Fatalf("Replace %s and %s by %s: %s and %s", reader.Write(a), reader.Write(b), written(by), reader.Write(newA), reader.Write(newB))
	}
}

// P5.3: Free of Replace. Replace of no pairs, or by pairs that do nothing, is
// the form. What is bound to names that are nowhere else is replaced without
// any other name, and is alike.
func TestReplaceLaws(t *testing.T) {
	m := &maker{grammar: readBook(), dice: 7}
	tried := 0
	for range 3000 {
		f, letter, row := m.whole()
		text, by, free := reader.Write(f), m.pairs(), m.free(letter, row)
		for _, nothing := range [][]binder.Pair{nil, {}, pairs("nowhere 1"), pairs("x x y y v_0 v_0")} {
			if got, err := binder.Replace(f, nothing); err != api.OK || !identical(clone(got), clone(f)) {
				t.Fatalf("Replace %s by %s: %s", text, written(nothing), reader.Write(got))
			}
		}
		got, err := binder.Replace(f, by)
		if _, none := binder.Free(got); err != api.OK || none != api.OK {
			continue
		}
		tried++
		want := maps.Clone(free)
		for _, p := range by {
			delete(want, p.Name)
		}
		for _, p := range by {
			if free[p.Name] {
				names, _ := binder.Free(p.To)
				for _, name := range names {
					want[name] = true
				}
			}
		}
		if named(binder.Free(got)) != sorted(want) {
			t.Fatalf("Free of Replace %s by %s: %s", text, written(by), named(binder.Free(got)))
		}
		apart := back(letter, m.numbered(letter, row, "apart", set{}))
		there, err := binder.Replace(apart, by)
		before, _ := binder.Bound(apart)
		after, _ := binder.Bound(there)
		isGone := func(name string) bool { return !slices.Contains(after, name) }
		if is, errAlike := binder.Alike(got, there); err != api.OK || errAlike != api.OK || !is || slices.ContainsFunc(before, isGone) {
			t.Fatalf("Replace %s by %s: not as that of %s", text, written(by), reader.Write(apart))
		}
	}
	if tried < 1500 {
		t.Errorf("too little was tried: %d", tried)
	}
}
