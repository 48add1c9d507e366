package scope_test

import (
	"slices"
	"strings"
	"testing"

	"plinth/api"
	"plinth/scope"
)

// unsigned is a text without signs.
func unsigned(s string) string {
	return strings.NewReplacer("@", "", "#", "", "%", "").Replace(s)
}

// wrong is the first error of declarations, by their signs, and the declaration
// that has it.
func wrong(decls []api.Form, texts map[string]string) (string, api.Errno) {
	for _, f := range decls {
		name := nameOf(f)
		switch at := strings.IndexAny(texts[name], "@#%"); {
		case at < 0:
		case texts[name][at] == '@':
			return name, api.ErrName
		case texts[name][at] == '#':
			return name, api.ErrDup
		default:
			return name, api.ErrType
		}
	}
	return "", api.OK
}

// nameOf is the name of a declaration.
func nameOf(f api.Form) string {
	if f.Kids[0].Text == "ghost" {
		f = f.Kids[1]
	}
	return f.Kids[1].Text
}

// made are the declarations of a made program, in any order, with their texts
// by their names.
func (m *maker) made() ([]api.Form, map[string]string) {
	var decls []api.Form
	texts := map[string]string{}
	for _, s := range m.program() {
		f := forms(unsigned(s))[0]
		decls = append(decls, f)
		texts[nameOf(f)] = s
	}
	return m.shuffled(decls), texts
}

// P7.1: of made programs Check tells the first thing that was made wrong.
func TestCheckByTheBook(t *testing.T) {
	m := &maker{dice: 1}
	counts := map[api.Errno]int{}
	for i := range 4000 {
		m.odds = []int{0, 150, 400, 1000}[i%4]
		p, texts := m.made()
		name, want := wrong(p, texts)
		counts[want]++
		if got, err := scope.Check(p); err != want || got != name {
			t.Fatalf("Check %s: error %d at %q, not %d at %q in %s", written(p...), err, got, want, name, texts[name]+texts[got])
		}
	}
	if counts[api.OK] < 1500 || counts[api.ErrName] < 500 || counts[api.ErrDup] < 50 || counts[api.ErrType] < 200 {
		t.Errorf("too little was tried: %v", counts)
	}
}

// calls are the calls that a maker has written.
func (m *maker) calls() []scope.Edge {
	var edges []scope.Edge
	for _, u := range m.uses {
		switch u.as {
		case "call":
			edges = append(edges, scope.Edge{From: u.by, To: u.name})
		case "get", "send":
			heads := []string{"function", "predicate", "twostate"}
			if u.as == "send" {
				heads = []string{"method", "lemma"}
			}
			for _, d := range m.plans {
				for _, f := range d.members {
					if f.name == u.name && slices.Contains(heads, f.head) {
						edges = append(edges, scope.Edge{From: u.by, To: d.name + "." + f.name})
					}
				}
			}
		}
	}
	slices.SortFunc(edges, func(a, b scope.Edge) int {
		return 2*strings.Compare(a.From, b.From) + strings.Compare(a.To, b.To)
	})
	return slices.Compact(edges)
}

// users are the declarations in which a maker has used a name.
func (m *maker) users(name string) []string {
	class, member, isMember := strings.Cut(name, ".")
	as := []string{"name", "call"}
	if isMember {
		name = member
		members := m.at(class).members
		switch members[slices.IndexFunc(members, func(f plan) bool { return f.name == member })].head {
		case "field":
			as = []string{"get", "store", "send", "new"}
		case "method", "lemma":
			as = []string{"send"}
		default:
			as = []string{"get"}
		}
	}
	var by []string
	for _, u := range m.uses {
		if u.name == name && slices.Contains(as, u.as) {
			decl, _, _ := strings.Cut(u.by, ".")
			by = append(by, decl)
		}
	}
	slices.Sort(by)
	return slices.Compact(by)
}

// reached are the names that calls lead to from a name, by going over all calls
// as often as this adds one.
func reached(edges []scope.Edge, from string) []string {
	var names []string
	for {
		before := len(names)
		for _, e := range edges {
			if (e.From == from || slices.Contains(names, e.From)) && !slices.Contains(names, e.To) {
				names = append(names, e.To)
			}
		}
		if len(names) == before {
			slices.Sort(names)
			return names
		}
	}
}

// components are those of some names, by what each one reaches.
func components(edges []scope.Edge, names []string) [][]string {
	var l [][]string
	reach, placed := map[string][]string{}, map[string]bool{}
	for _, name := range names {
		reach[name] = reached(edges, name)
	}
	part := func(name string) []string {
		return slices.DeleteFunc(slices.Clone(names), func(other string) bool {
			return other != name && !(slices.Contains(reach[name], other) && slices.Contains(reach[other], name))
		})
	}
	for len(placed) < len(names) {
		next := slices.IndexFunc(names, func(name string) bool {
			waits := func(other string) bool { return !placed[other] && !slices.Contains(part(name), other) }
			return !placed[name] && !slices.ContainsFunc(reach[name], waits)
		})
		l = append(l, part(names[next]))
		for _, name := range part(names[next]) {
			placed[name] = true
		}
	}
	return l
}

// P7.2, P7.3: of made programs that are let all is told as the chapter says, and
// the same in another order of their declarations.
func TestGraphByTheBook(t *testing.T) {
	m := &maker{dice: 2}
	tried := map[string]int{}
	for range 250 {
		p, _ := m.made()
		other := m.shuffled(p)
		edges := m.calls()
		for _, q := range [][]api.Form{p, other} {
			if got, err := scope.Graph(q); err != api.OK || !slices.Equal(got, edges) {
				t.Fatalf("Graph %s: error %d, %v, not %v", written(q...), err, got, edges)
			}
		}
		var callable []string
		for _, d := range m.plans {
			m.holdAgainst(t, p, d.name)
			isClass := d.head == "class" || d.head == "trait"
			if !isClass && !slices.Contains([]string{"data", "codata"}, d.head) {
				m.holdReach(t, p, d.name, edges)
				if d.head != "sub" {
					callable = append(callable, d.name)
				}
			}
			for _, ctor := range d.ctors {
				m.holdAgainst(t, p, ctor.name)
			}
			for _, f := range d.members {
				name := d.name + "." + f.name
				m.holdAgainst(t, p, name)
				if f.head == "field" {
					continue
				}
				tried["members"]++
				m.holdReach(t, p, name, edges)
				callable = append(callable, name)
			}
			if isClass {
				m.holdMembers(t, p, d.name)
			}
		}
		slices.Sort(callable)
		want := components(edges, callable)
		for _, q := range [][]api.Form{p, other} {
			got, err := scope.Components(q)
			if parts(got, err) != parts(want, api.OK) {
				t.Fatalf("Components %s: %s, not %s", written(q...), parts(got, err), parts(want, api.OK))
			}
		}
		holdOrder(t, want, edges)
		tried["edges"] += len(edges)
		for _, part := range want {
			tried["circles"] += len(part) - 1
		}
	}
	if tried["members"] < 600 || tried["edges"] < 2500 || tried["circles"] < 200 {
		t.Errorf("too little was tried: %v", tried)
	}
}

// holdAgainst asks Find and Uses of a name.
func (m *maker) holdAgainst(t *testing.T, p []api.Form, name string) {
	t.Helper()
	if got, want := named(scope.Uses(p, name)), strings.Join(m.users(name), " "); got != want {
		t.Fatalf("Uses %s: %s, not %s, of %s", name, got, want, written(p...))
	}
	f, err := scope.Find(p, name)
	isCtor := slices.Contains(m.ctors(""), name)
	if _, member, _ := strings.Cut("."+name, "."); isCtor != (err == api.ErrName) || !isCtor && nameOf(f) != member[strings.Index(member, ".")+1:] {
		t.Fatalf("Find %s of %s: %s, error %d", name, written(p...), written(f), err)
	}
}

// holdReach asks Reach and Recursive of a name. What is reached reaches no more.
func (m *maker) holdReach(t *testing.T, p []api.Form, name string, edges []scope.Edge) {
	t.Helper()
	want := reached(edges, name)
	if got, err := scope.Reach(p, name); named(got, err) != strings.Join(want, " ") {
		t.Fatalf("Reach %s of %s: %v, error %d, not %v", name, written(p...), got, err, want)
	}
	if got, err := scope.Recursive(p, name); err != api.OK || got != slices.Contains(want, name) {
		t.Fatalf("Recursive %s of %s: %v, error %d", name, written(p...), got, err)
	}
	for _, to := range want[:min(2, len(want))] {
		if further, err := scope.Reach(p, to); err != api.OK || slices.ContainsFunc(further, func(s string) bool { return !slices.Contains(want, s) }) {
			t.Fatalf("Reach %s of %s: %v, error %d, not in %v", to, written(p...), further, err, want)
		}
	}
}

// holdMembers asks Members and Below of a class or trait.
func (m *maker) holdMembers(t *testing.T, p []api.Form, class string) {
	t.Helper()
	var want, got []string
	for _, f := range m.has(class) {
		want = append(want, f.name)
	}
	l, err := scope.Members(p, class)
	for _, f := range l {
		got = append(got, nameOf(f))
	}
	if err != api.OK || !slices.Equal(got, want) {
		t.Fatalf("Members %s of %s: error %d, %v, not %v", class, written(p...), err, got, want)
	}
	for _, d := range m.plans {
		if got := scope.Below(p, class, d.name); got != m.isBelow(class, d.name) {
			t.Fatalf("Below %s %s of %s: %v", class, d.name, written(p...), got)
		}
	}
}

func (m *maker) isBelow(a, b string) bool {
	return a == b || slices.ContainsFunc(m.at(a).traits, func(t string) bool { return m.isBelow(t, b) })
}

// holdOrder fails unless calls between components go from a later one to an
// earlier one.
func holdOrder(t *testing.T, l [][]string, edges []scope.Edge) {
	t.Helper()
	place := map[string]int{}
	for i, part := range l {
		for _, name := range part {
			place[name] = i
		}
	}
	for _, e := range edges {
		from, isCallable := place[e.From]
		if isCallable && from < place[e.To] {
			t.Fatalf("%s calls %s, but stands ahead of it: %v", e.From, e.To, l)
		}
	}
}
