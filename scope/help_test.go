package scope_test

import (
	"slices"
	"strconv"
	"strings"
	"testing"

	"plinth/api"
	"plinth/kind"
	"plinth/reader"
	"plinth/scope"
)

func num(n int) api.Form             { return api.Form{Kind: api.Num, N: n} }
func word(s string) api.Form         { return api.Form{Kind: api.Word, Text: s} }
func list(kids ...api.Form) api.Form { return api.Form{Kind: api.List, Kids: kids} }

// forms reads a text of forms.
func forms(s string) []api.Form {
	l, err := reader.Read(s)
	if err != api.OK {
		panic("no forms: " + s)
	}
	return l
}

// written are forms as a text, with blanks between.
func written(l ...api.Form) string {
	return strings.TrimSuffix(strings.ReplaceAll(reader.WriteAll(l), "\n", " "), " ")
}

// told is a text or, where there is an error, its number.
func told(s string, err api.Errno) string {
	if err != api.OK {
		return "error " + strconv.Itoa(int(err))
	}
	return s
}

// named are names or, where there is an error, its number.
func named(names []string, err api.Errno) string {
	return told(strings.Join(names, " "), err)
}

// graph is a call graph as a text: F>G for each call.
func graph(edges []scope.Edge, err api.Errno) string {
	var l []string
	for _, e := range edges {
		l = append(l, e.From+">"+e.To)
	}
	return named(l, err)
}

// parts are components as a text.
func parts(l [][]string, err api.Errno) string {
	var all []string
	for _, names := range l {
		all = append(all, "("+strings.Join(names, " ")+")")
	}
	return named(all, err)
}

// rows are those of a table as a text: NAME KIND N, and eq, new.
func rows(l []kind.Row) string {
	var all []string
	for _, r := range l {
		s := r.Name + " " + strconv.Itoa(r.Kind) + " " + strconv.Itoa(r.N)
		if r.Eq {
			s += " eq"
		}
		if r.New {
			s += " new"
		}
		all = append(all, s)
	}
	return strings.Join(all, ", ")
}

// refused asks all functions about a program that Check, and so each of them,
// must not let.
func refused(t *testing.T, what string, p []api.Form, name string, want api.Errno) {
	t.Helper()
	if got, err := scope.Check(p); err != want || got != name {
		t.Errorf("Check %s: error %d at %q, not %d at %q", what, err, got, want, name)
	}
	if edges, err := scope.Graph(p); err != want || len(edges) > 0 {
		t.Errorf("Graph %s: %v, error %d", what, edges, err)
	}
	if l, err := scope.Components(p); err != want || len(l) > 0 {
		t.Errorf("Components %s: %v, error %d", what, l, err)
	}
	for _, of := range []string{"f", "C", "nowhere"} {
		if f, err := scope.Find(p, of); err != want || !reader.Equal(f, api.Form{}) {
			t.Errorf("Find %s: %s, error %d", what, written(f), err)
		}
		if is, err := scope.Recursive(p, of); err != want || is {
			t.Errorf("Recursive %s: %v, error %d", what, is, err)
		}
		if l, err := scope.Reach(p, of); err != want || len(l) > 0 {
			t.Errorf("Reach %s: %v, error %d", what, l, err)
		}
		if l, err := scope.Uses(p, of); err != want || len(l) > 0 {
			t.Errorf("Uses %s: %v, error %d", what, l, err)
		}
		if l, err := scope.Members(p, of); err != want || len(l) > 0 {
			t.Errorf("Members %s: %s, error %d", what, written(l...), err)
		}
	}
}

// isLet fails if Check does not let a program.
func isLet(t *testing.T, what string, p []api.Form) {
	t.Helper()
	if name, err := scope.Check(p); err != api.OK || name != "" {
		t.Errorf("Check %s: error %d at %q", what, err, name)
	}
}

// identical compares all fields of forms, the unused ones too.
func identical(a, b api.Form) bool {
	return a.Kind == b.Kind && a.N == b.N && a.Text == b.Text && slices.EqualFunc(a.Kids, b.Kids, identical)
}

// cloned are forms that share no Kids with those of l.
func cloned(l []api.Form) []api.Form {
	c := make([]api.Form, len(l))
	for i, f := range l {
		f.Kids = cloned(f.Kids)
		c[i] = f
	}
	return c
}

// repeat is a list of a head and n times f.
func repeat(head string, n int, f api.Form) api.Form {
	return list(append([]api.Form{word(head)}, slices.Repeat([]api.Form{f}, n)...)...)
}

// dice gives numbers that look like random ones, the same in each run.
type dice uint64

func (d *dice) below(n int) int {
	*d = *d*6364136223846793005 + 1442695040888963407
	return int(uint64(*d)>>33) % n
}

// one is one of some words.
func (d *dice) one(of ...string) string {
	return of[d.below(len(of))]
}

// shuffled are forms in another order.
func (d *dice) shuffled(l []api.Form) []api.Form {
	l = slices.Clone(l)
	for i := range l {
		j := i + d.below(len(l)-i)
		l[i], l[j] = l[j], l[i]
	}
	return l
}
