package inhabit

import "plinth/api"

// A witness of data is deeper than their round, and a form is no deeper than
// MaxDeep: later rounds do not matter.
const lastRound = api.MaxDeep - 1

// A way is one in which something is ready in a round, but not ahead of the
// arguments that it needs.
type way struct {
	round int
	// needs has 0 for an argument that may be what it likes, and n + 1 for one that
	// must be ready n rounds ahead.
	needs [maxTypeVars]int
}

// with is the way to be ready in two ways.
func (w way) with(other way) way {
	w.round = max(w.round, other.round)
	for i, n := range other.needs {
		w.needs[i] = max(w.needs[i], n)
	}
	return w
}

// later is the way to be ready some rounds behind, and whether that matters.
func (w way) later(rounds int) (way, bool) {
	w.round += rounds
	matters := w.round <= lastRound
	for i, n := range w.needs {
		if n > 0 {
			w.needs[i] += rounds
			matters = matters && n+rounds-1 <= lastRound
		}
	}
	return w, matters
}

// A choice has the ways in which something is ready, none of which is needless
// beside another one. It is ready in the first round that one of them tells.
type choice []way

// add adds a way that may be better than those that are there, and tells whether
// it may.
func (l choice) add(w way) (choice, bool) {
	var left choice
	for _, other := range l {
		switch w.with(other) {
		case w: // the other one is as good, or better
			return l, false
		case other:
		default:
			left = append(left, other)
		}
	}
	return append(left, w), true
}

// with are the ways in which two things are ready together.
func (l choice) with(other choice) choice {
	var both choice
	for _, w := range l {
		for _, v := range other {
			both, _ = both.add(w.with(v))
		}
	}
	return both
}

// later are the ways to be ready some rounds behind.
func (l choice) later(rounds int) choice {
	var behind choice
	for _, w := range l {
		if w, matters := w.later(rounds); matters {
			behind = append(behind, w)
		}
	}
	return behind
}

// A readiness has the ways in which the data of a program are ready, with whatever
// arguments are put in.
type readiness struct {
	in   *program
	ways map[string]choice // by name
}

// findWays finds the ways of all data. They are found for all arguments at once:
// data may stand in themselves with ever greater ones.
func (in *program) findWays() *readiness {
	r := &readiness{in: in, ways: map[string]choice{}}
	untilStill(func() bool {
		grew := false
		for _, d := range in.decls {
			if in.founded[d.name] {
				grew = r.lookAt(d) || grew
			}
		}
		return grew
	})
	return r
}

// lookAt looks for ways of data, and tells whether one is new.
func (r *readiness) lookAt(d decl) bool {
	own := map[string]choice{}
	for i, v := range d.vars {
		var needed way
		needed.needs[i] = 1
		own[v] = choice{needed}
	}
	grew := false
	for _, c := range d.ctors {
		for _, w := range r.ofCtor(c, own) {
			more, is := r.ways[d.name].add(w)
			r.ways[d.name], grew = more, grew || is
		}
	}
	return grew
}

// ofCtor are the ways of what a CTOR makes, by those of the type variables.
func (r *readiness) ofCtor(c ctor, vars map[string]choice) choice {
	all := choice{way{}}
	for _, t := range c.fields {
		all = all.with(r.of(t, vars))
	}
	return all.later(1)
}

// of are the ways of a type, by those of the type variables.
func (r *readiness) of(t api.Form, vars map[string]choice) choice {
	name, behind := parts(t)
	switch name {
	case "int", "bool", "bits", "seq", "set", "bag", "map", "maybe":
		return choice{way{}}
	case "imap":
		return r.of(behind[1], vars)
	}
	if ways, is := vars[name]; is {
		return ways
	}
	if r.in.row[name].Kind == aSub {
		return choice{way{}}
	}
	var all choice
	for _, w := range r.ways[name] {
		ways := choice{way{round: w.round}}
		for i, argument := range behind {
			if n := w.needs[i]; n > 0 {
				ways = ways.with(r.of(argument, vars).later(n - 1))
			}
		}
		for _, w := range ways {
			all, _ = all.add(w)
		}
	}
	return all
}

// firstCtor is the CTOR by which data with arguments are ready first: of several
// the first one.
func (r *readiness) firstCtor(d decl, arguments []api.Form) ctor {
	vars := map[string]choice{}
	for i, v := range d.vars {
		vars[v] = r.of(arguments[i], nil)
	}
	first, round := ctor{}, lastRound+1
	for _, c := range d.ctors {
		// There is one way at most: nothing is left that it may need.
		for _, w := range r.ofCtor(c, vars) {
			if w.round < round {
				first, round = c, w.round
			}
		}
	}
	return first
}
