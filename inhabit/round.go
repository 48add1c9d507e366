package inhabit

import (
	"slices"

	"plinth/api"
)

const never = 1 << 30 // a round behind all others

// An instance is data or a subset type, and the rounds of its arguments.
type instance struct {
	name   string
	rounds [maxTypeVars]int
}

// A told is the round in which an instance is told to be something, by a CTOR of
// which all fields are so ahead of it: by the first one of several.
type told struct {
	round, ctor int
}

// isAhead tells whether more is known by one than by another one. What is known
// stays: it may be that an argument comes ahead, by which others are asked for that
// are not known yet.
func (t told) isAhead(other told) bool {
	return t.round < other.round || t.round == other.round && t.ctor < other.ctor
}

// A search finds the rounds in which instances are told to be something. An
// instance hangs on others, which are asked for on the way.
type search struct {
	in *program
	// known is the round of a name that is no data with CTORs to be looked at, and
	// whether it is such a name.
	known func(name string) (int, bool)
	step  int // how many rounds data come behind their fields
	last  int // the last round that matters
	asked []instance
	told  map[instance]told // of all that are asked for: as early as is known
}

// settle finds the rounds of a type, and of all that it leads to. It asks for the
// type again and again, as it is asked for by the rounds of its arguments.
func (s *search) settle(t api.Form) {
	untilStill(func() bool {
		s.roundOf(t, instance{})
		return s.look()
	})
}

// roundOf is the round of a type in an instance, as early as is known.
func (s *search) roundOf(t api.Form, at instance) int {
	name, behind := parts(t)
	switch name {
	case "int", "bool", "bits", "seq", "set", "bag", "map", "maybe":
		return 0
	case "imap":
		return s.roundOf(behind[1], at)
	}
	if i := slices.Index(s.in.named[at.name].vars, name); i >= 0 {
		return at.rounds[i]
	}
	if round, ok := s.known(name); ok {
		return round
	}
	return s.ask(s.instanceOf(name, behind, at)).round
}

// instanceOf is the instance of a name with arguments that stand in another one.
func (s *search) instanceOf(name string, arguments []api.Form, at instance) instance {
	inner := instance{name: name}
	for i, t := range arguments {
		inner.rounds[i] = s.roundOf(t, at)
	}
	return inner
}

// ask is what is known of an instance.
func (s *search) ask(at instance) told {
	known, before := s.told[at]
	if !before {
		known.round = never
		s.told[at] = known
		s.asked = append(s.asked, at)
	}
	return known
}

// look looks at all that are asked for, also at those that are asked for on the
// way, and tells whether more is known of one now.
func (s *search) look() bool {
	more := false
	for i := 0; i < len(s.asked); i++ {
		at := s.asked[i]
		if first := s.first(at); first.isAhead(s.told[at]) {
			s.told[at] = first
			more = true
		}
	}
	return more
}

// first is what the CTORs of an instance tell.
func (s *search) first(at instance) told {
	first := told{round: never}
	for i, c := range s.in.named[at.name].ctors {
		if s.holdsItself(c, at) {
			continue
		}
		round := 0
		for _, t := range c.fields {
			round = max(round, s.roundOf(t, at))
		}
		if round += s.step; round < first.round && round <= s.last {
			first = told{round: round, ctor: i}
		}
	}
	return first
}

// holdsItself tells whether an instance has a field of its own data in a CTOR, with
// no argument that comes ahead of its own one. Such a field does not come ahead of
// the instance either, and it may lead to ever more instances.
func (s *search) holdsItself(c ctor, at instance) bool {
	return slices.ContainsFunc(c.fields, func(t api.Form) bool {
		name, arguments := parts(t)
		if name != at.name || s.in.named[name].has(name) {
			return false
		}
		inner := s.instanceOf(name, arguments, at)
		for i, round := range inner.rounds {
			if round < at.rounds[i] {
				return false
			}
		}
		return true
	})
}
