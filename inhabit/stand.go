package inhabit

import "plinth/api"

// A stand is how something stands in a type, or in all types of a declaration.
type stand struct {
	// sign is 0 if it stands nowhere, 1 only where it may grow, -1 only where it
	// may shrink, 2 both.
	sign int
	// closed says that it stands in a set, a bag, an imap or a key somewhere.
	closed bool
}

// isPositive tells whether data may stand so in themselves.
func (s stand) isPositive() bool {
	return (s.sign == 0 || s.sign == 1) && !s.closed
}

// through is how something stands in a whole, if it stands so in a part of it, and
// the part stands there as outer says.
func (s stand) through(outer stand) stand {
	switch {
	case s.sign == 0 || outer.sign == 0:
		return stand{}
	case s.sign == 2 || outer.sign == 2:
		return stand{sign: 2, closed: s.closed || outer.closed}
	}
	return stand{sign: s.sign * outer.sign, closed: s.closed || outer.closed}
}

// with is how something stands that stands in two ways.
func (s stand) with(other stand) stand {
	sign := s.sign
	switch {
	case sign == 0:
		sign = other.sign
	case other.sign != 0 && other.sign != sign:
		sign = 2
	}
	return stand{sign: sign, closed: s.closed || other.closed}
}

// stands are how names and type variables stand somewhere.
type stands map[string]stand

// add notes that a name stands in some way, and tells whether that is new.
func (l stands) add(name string, s stand) bool {
	was := l[name]
	l[name] = was.with(s)
	return l[name] != was
}

// findStands finds how names, and its own type variables, stand in each
// declaration, seen through the arguments of other data.
func (in *program) findStands() map[string]stands {
	found := map[string]stands{}
	for _, d := range in.decls {
		found[d.name] = stands{}
	}
	untilStill(func() bool {
		grew := false
		for _, d := range in.decls {
			for _, t := range d.types() {
				in.eachStand(t, stand{sign: 1}, found, func(name string, s stand) {
					grew = found[d.name].add(name, s) || grew
				})
			}
		}
		return grew
	})
	return found
}

// eachStand shows the names that stand in a type, and how they stand in a whole in
// which the type stands as told. How the variables of other data stand is known as
// far as it is found.
func (in *program) eachStand(t api.Form, at stand, found map[string]stands, show func(name string, s stand)) {
	within := func(t api.Form, s stand) {
		if s = s.through(at); s.sign != 0 {
			in.eachStand(t, s, found, show)
		}
	}
	name, behind := parts(t)
	switch name {
	case "int", "bool", "bits", "maybe":
	case "seq":
		within(behind[0], stand{sign: 1})
	case "set", "bag":
		within(behind[0], stand{sign: 1, closed: true})
	case "map", "imap":
		within(behind[0], stand{sign: 1, closed: true})
		within(behind[1], stand{sign: 1, closed: name == "imap"})
	case "fun":
		for _, argument := range behind[0].Kids {
			within(argument, stand{sign: -1})
		}
		within(behind[1], stand{sign: 1})
	default:
		show(name, at)
		for i, argument := range behind {
			within(argument, found[name][in.named[name].vars[i]])
		}
	}
}

// isPositive tells whether data stand in themselves only where they may, also
// through what else stands in them.
func (in *program) isPositive(name string, found map[string]stands) bool {
	reached := stands{}
	var next []string
	spread := func(from string, at stand) {
		for to, s := range found[from] {
			if !in.named[from].has(to) && reached.add(to, s.through(at)) {
				next = append(next, to)
			}
		}
	}
	spread(name, stand{sign: 1})
	for len(next) > 0 {
		from := next[0]
		next = next[1:]
		spread(from, reached[from])
	}
	return reached[name].isPositive()
}
