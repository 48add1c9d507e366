package inhabit_test

import (
	"slices"
	"strings"
	"testing"

	"plinth/api"
	"plinth/inhabit"
	"plinth/kind"
	"plinth/reader"
	"plinth/typing"
)

// eachMade shows programs that a maker makes, with what the book says of them.
func eachMade(t *testing.T, seed dice, times int, show func(m *maker, p []api.Form, b *book)) {
	m := &maker{dice: seed}
	shown := 0
	for range times {
		p := m.program()
		if name, err := typing.Check(p); err != api.OK {
			t.Fatalf("typing.Check: %s, error %d, of %s", name, err, written(p...))
		}
		if b, ok := bookOf(m.plans); ok {
			show(m, p, b)
			shown++
		}
	}
	if shown < times/2 {
		t.Errorf("too little was tried: %d", shown)
	}
}

// P9.1: Check tells the first data that the book does not allow.
func TestCheckByTheBook(t *testing.T) {
	tried := map[string]int{}
	eachMade(t, 1, 3000, func(m *maker, p []api.Form, b *book) {
		want := "OK"
		for _, f := range p {
			d, _, isPlan := b.plan(list(append([]api.Form{f.Kids[1]}, f.Kids[2].Kids...)...))
			if !isPlan && len(f.Kids[2].Kids) == 0 {
				d, _, isPlan = b.plan(f.Kids[1])
			}
			if !isPlan || d.head == "sub" {
				continue
			}
			is, ok := b.positive(d)
			if !ok {
				return
			}
			if !is {
				want = d.name + " error 8"
				break
			}
			if d.head == "data" && !b.foundedOf[d.name] {
				want = d.name + " error 3"
				break
			}
		}
		tried[want[max(0, len(want)-7):]]++
		if got := checked(p); got != want {
			t.Fatalf("Check %s: %s, not %s", written(p...), got, want)
		}
	})
	if tried["OK"] < 300 || tried["error 8"] < 300 || tried["error 3"] < 150 {
		t.Errorf("too little was tried: %v", tried)
	}
}

// P9.2: Founded, Eq, Ready and Table by the book.
func TestTableByTheBook(t *testing.T) {
	tried := map[kind.Row]int{}
	eachMade(t, 2, 1500, func(m *maker, p []api.Form, b *book) {
		var founded []string
		for _, d := range b.plans {
			if b.foundedOf[d.name] {
				founded = append(founded, d.name)
			}
		}
		if got := named(inhabit.Founded(p)); got != strings.Join(founded, " ") {
			t.Fatalf("Founded %s: %s, not %v", written(p...), got, founded)
		}
		want := []kind.Row{{Name: "C", Kind: 3}, {Name: "R", Kind: 4}}
		for _, d := range b.plans {
			row := kind.Row{Kind: map[string]int{"data": 1, "codata": 2, "sub": 5}[d.head], N: len(d.vars), Eq: b.eqs[d.name], New: d.head == "sub" || b.readies[d.name]}
			tried[row]++
			row.Name = d.name
			want = append(want, row)
		}
		table, err := inhabit.Table(p)
		if err != api.OK || !slices.Equal(table, want) {
			t.Fatalf("Table %s: %v, not %v", written(p...), table, want)
		}
		for _, row := range want {
			if got := said(inhabit.Eq(p, row.Name)) + " " + said(inhabit.Ready(p, row.Name)); got != said(row.Eq, api.OK)+" "+said(row.New, api.OK) {
				t.Fatalf("Eq, Ready %s of %s: %s", row.Name, written(p...), got)
			}
		}
	})
	for _, row := range []kind.Row{{Kind: 1}, {Kind: 1, Eq: true}, {Kind: 1, New: true}, {Kind: 1, N: 1, Eq: true, New: true}, {Kind: 1, N: 2}, {Kind: 1, N: 1, New: true}, {Kind: 2, N: 1}, {Kind: 5, New: true}, {Kind: 5, Eq: true, New: true}} {
		if tried[row] < 20 {
			t.Errorf("too little was tried: %v %d", row, tried[row])
		}
	}
}

// P9.3: a founded data has a value of least depth, and what is not founded has
// none.
func TestFoundedHaveValues(t *testing.T) {
	tried := map[bool]int{}
	eachMade(t, 6, 1500, func(m *maker, p []api.Form, b *book) {
		names, _ := inhabit.Founded(p)
		known := map[string]bool{}
		for _, d := range b.plans {
			if d.head != "data" || len(d.vars) > 0 {
				continue
			}
			is := slices.Contains(names, d.name)
			tried[is]++
			if has := b.has(word(d.name), 8, known); has != is {
				t.Fatalf("Founded %s: %v, has %s a value: %v", written(p...), names, d.name, has)
			}
		}
	})
	if tried[true] < 500 || tried[false] < 50 {
		t.Errorf("too little was tried: %v", tried)
	}
}

// P9.2, P9.3: Count by the book. Where it is a number, there are just so many
// values that differ.
func TestCountByTheBook(t *testing.T) {
	tried, many := map[int]int{}, 0
	eachMade(t, 3, 1500, func(m *maker, p []api.Form, b *book) {
		table, _ := inhabit.Table(p)
		for range 4 {
			of := m.closed(3)
			if kind.Check(of, table) != api.OK {
				continue
			}
			want := b.count(of)
			if got := counted(inhabit.Count(p, of)); got != counted(want, api.OK) {
				t.Fatalf("Count %s of %s: %s, not %d", reader.Write(of), written(p...), got, want)
			}
			tried[min(want, 3)]++
			if want > 10 {
				many++
			}
			if want >= 0 {
				all, noEnd := b.values(of, 6)
				slices.Sort(all)
				if all = slices.Compact(all); noEnd || len(all) != want {
					t.Fatalf("Count %s of %s: %d, but %d values, %v", reader.Write(of), written(p...), want, len(all), noEnd)
				}
			}
		}
	})
	if tried[-1] < 500 || tried[0] < 60 || tried[1] < 100 || tried[2] < 100 || tried[3] < 100 || many < 30 {
		t.Errorf("too little was tried: %v, %d", tried, many)
	}
}

// P9.2, P9.3: witnesses by the book. They have a type that fits.
func TestWitnessByTheBook(t *testing.T) {
	tried, generic, imaps := map[bool]int{}, 0, 0
	eachMade(t, 4, 1500, func(m *maker, p []api.Form, b *book) {
		table, _ := inhabit.Table(p)
		for i := range 8 {
			of := m.closed(2)
			if i >= 4 {
				of = list(word("imap"), word("int"), m.dataWithArguments())
			}
			if kind.Check(of, table) != api.OK {
				continue
			}
			want := b.witness(of)
			if strings.Contains(want, "error 3") {
				want = "error 3"
			}
			w, err := inhabit.Witness(p, of)
			if got := told(w, err); got != want {
				t.Fatalf("Witness %s of %s: %s, not %s", reader.Write(of), written(p...), got, want)
			}
			tried[err == api.OK]++
			if strings.Contains(want, "(of ") {
				generic++
			}
			if err == api.OK && reader.Head(of) == "imap" && !b.ready(of) {
				imaps++
			}
			if err != api.OK || strings.Contains(want, "(imap null") {
				continue // an imap of null alone has no type
			}
			got, err := typing.Type(p, nil, "", w)
			if fits, _ := typing.Fits(p, got, of); err != api.OK || !fits {
				t.Fatalf("Witness %s of %s: %s is of %s", reader.Write(of), written(p...), reader.Write(w), told(got, err))
			}
			if !kind.Ready(of, table) {
				t.Fatalf("Witness %s of %s: it is not ready", reader.Write(of), written(p...))
			}
			if inhabit.Count(p, of); counted(inhabit.Count(p, of)) == "0" {
				t.Fatalf("Witness %s of %s: there is no value", reader.Write(of), written(p...))
			}
		}
	})
	if tried[true] < 1000 || tried[false] < 500 || generic < 100 || imaps < 50 {
		t.Errorf("too little was tried: %v, %d, %d", tried, generic, imaps)
	}
}

// P14, R9: the order of declarations changes nothing but which one Check tells.
func TestOrder(t *testing.T) {
	eachMade(t, 5, 300, func(m *maker, p []api.Form, b *book) {
		other := m.shuffled(p)
		a, err := inhabit.Table(p)
		c, err2 := inhabit.Table(other)
		if !slices.Equal(a, c) || err != err2 || named(inhabit.Founded(p)) != named(inhabit.Founded(other)) || (checked(p) == "OK") != (checked(other) == "OK") {
			t.Fatalf("Table, Founded, Check of %s, and of %s", written(p...), written(other...))
		}
		for range 3 {
			of := m.closed(2)
			if told(inhabit.Witness(p, of)) != told(inhabit.Witness(other, of)) || counted(inhabit.Count(p, of)) != counted(inhabit.Count(other, of)) {
				t.Fatalf("Witness, Count %s of %s, and of %s", reader.Write(of), written(p...), written(other...))
			}
		}
	})
}
