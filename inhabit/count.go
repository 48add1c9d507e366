package inhabit

import (
	"slices"

	"plinth/api"
	"plinth/kind"
)

// How many values there are is told up to most. It is more if there are more.
const (
	most = 1000
	more = -1
)

func capped(n int) int {
	if n > most {
		return more
	}
	return n
}

func sum(a, b int) int {
	if a == more || b == more {
		return more
	}
	return capped(a + b)
}

func product(a, b int) int {
	switch {
	case a == 0 || b == 0:
		return 0
	case a == more || b == more:
		return more
	}
	return capped(a * b)
}

// power is how many ways there are to choose one of base things so many times.
func power(base, times int) int {
	switch {
	case base == 1 || times == 0:
		return 1
	case base == more || times == more:
		return more
	}
	n := 1
	for i := 0; i < times && n != more; i++ {
		n = product(n, base)
	}
	return n
}

// A tally is data or codata, and how many values each argument has.
type tally struct {
	name      string
	arguments [maxTypeVars]int
}

// A counter counts values.
type counter struct {
	in    *program
	known map[tally]int
}

// count is how many values a type has.
func (in *program) count(t api.Form) int {
	c := &counter{in: in, known: map[tally]int{}}
	return c.count(t, decl{}, tally{})
}

// count is how many values a type in a declaration has, with arguments.
func (c *counter) count(t api.Form, d decl, at tally) int {
	inner := func(t api.Form) int { return c.count(t, d, at) }
	name, behind := parts(t)
	switch name {
	case "bool":
		return 2
	case "bits":
		return power(2, behind[0].N)
	case "seq", "bag":
		return onlyOne(inner(behind[0]) == 0)
	case "set":
		return power(2, inner(behind[0]))
	case "map":
		return power(sum(inner(behind[1]), 1), inner(behind[0]))
	case "imap", "fun":
		return onlyOne(inner(behind[1]) == 1)
	}
	if i := slices.Index(d.vars, name); i >= 0 {
		return at.arguments[i]
	}
	// What is left has too many values, or is not counted, but data and codata.
	if is := c.in.row[name].Kind; is != aData && is != aCodata {
		return more
	}
	named := tally{name: name}
	for i, argument := range behind {
		named.arguments[i] = inner(argument)
	}
	return c.countData(named)
}

func onlyOne(is bool) int {
	if is {
		return 1
	}
	return more
}

// countData is how many values data or codata have with arguments.
func (c *counter) countData(at tally) int {
	if n, ok := c.known[at]; ok {
		return n
	}
	d := c.in.named[at.name]
	n := more
	switch {
	case d.kind == aData && !c.in.founded[d.name]:
		n = 0
	case !c.in.isInCircle(d.name):
		n = c.countCtors(d, at)
	case d.kind == aCodata:
		n = onlyOne(d.isItselfAlone())
	}
	c.known[at] = n
	return n
}

// countCtors is how many values all CTORs make together.
func (c *counter) countCtors(d decl, at tally) int {
	all := 0
	for _, ctor := range d.ctors {
		n := 1
		for _, t := range ctor.fields {
			n = product(n, c.count(t, d, at))
		}
		all = sum(all, n)
	}
	return all
}

// isItselfAlone tells whether data in a circle have one CTOR, with nothing but
// themselves in it.
func (d decl) isItselfAlone() bool {
	return len(d.ctors) == 1 && !slices.ContainsFunc(d.types(), func(t api.Form) bool {
		name, _ := parts(t)
		return name != d.name
	})
}

// isInCircle tells whether data or codata stand within themselves, directly or
// through other data, codata and subset types.
func (in *program) isInCircle(name string) bool {
	seen := map[string]bool{}
	next := []string{name}
	for len(next) > 0 && !seen[name] {
		d := in.named[next[0]]
		next = next[1:]
		for _, t := range d.types() {
			for _, to := range kind.Names(t) {
				if !seen[to] && !d.has(to) {
					seen[to] = true
					next = append(next, to)
				}
			}
		}
	}
	return seen[name]
}
