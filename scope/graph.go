package scope

import (
	"maps"
	"slices"
)

// callables are the callable names and members, ascending.
func (s *program) callables() []string {
	var names []string
	for _, d := range s.decls {
		if d.isCallable() {
			names = append(names, d.name)
		}
		for _, m := range d.members() {
			if m.isCallable() {
				names = append(names, m.of(d.name))
			}
		}
	}
	slices.Sort(names)
	return names
}

// calls are the names that each caller calls, ascending, each once.
func (s *program) calls() map[string][]string {
	functions, methods := map[string][]string{}, map[string][]string{}
	for _, d := range s.decls {
		for _, m := range d.members() {
			switch {
			case m.isFunction():
				functions[m.name] = append(functions[m.name], m.of(d.name))
			case m.isMethod():
				methods[m.name] = append(methods[m.name], m.of(d.name))
			}
		}
	}
	calls := map[string][]string{}
	for _, u := range s.uses {
		switch u.as {
		case called:
			calls[u.by] = append(calls[u.by], u.name)
		case got:
			calls[u.by] = append(calls[u.by], functions[u.name]...)
		case sent:
			calls[u.by] = append(calls[u.by], methods[u.name]...)
		}
	}
	for _, l := range calls {
		slices.Sort(l)
	}
	return calls
}

// reach are the names to which calls lead from a name, ascending.
func reach(name string, calls map[string][]string) []string {
	reached := map[string]bool{}
	next := []string{name}
	for len(next) > 0 {
		last := len(next) - 1
		from := next[last]
		next = next[:last]
		for _, to := range calls[from] {
			if !reached[to] {
				reached[to] = true
				next = append(next, to)
			}
		}
	}
	return slices.Sorted(maps.Keys(reached))
}

// circles are the strongly connected parts of a graph, each one's names
// ascending.
func circles(names []string, calls map[string][]string) [][]string {
	var parts [][]string
	var open []string // met, and in no part yet
	met, first, isOpen := map[string]int{}, map[string]int{}, map[string]bool{}
	var visit func(name string)
	visit = func(name string) {
		number, start := len(met)+1, len(open)
		met[name], first[name], isOpen[name] = number, number, true
		open = append(open, name)
		for _, to := range calls[name] {
			if met[to] == 0 {
				visit(to)
			}
			if isOpen[to] {
				first[name] = min(first[name], first[to])
			}
		}
		if first[name] < number {
			return
		}
		part := slices.Clone(open[start:])
		open = open[:start]
		for _, member := range part {
			isOpen[member] = false
		}
		slices.Sort(part)
		parts = append(parts, part)
	}
	for _, name := range names {
		if met[name] == 0 {
			visit(name)
		}
	}
	return parts
}

// inOrder are the parts of a graph, each one behind all that it calls: always
// the one with the least first name that can come next.
func inOrder(parts [][]string, calls map[string][]string) [][]string {
	slices.SortFunc(parts, slices.Compare)
	place := map[string]int{}
	for i, part := range parts {
		for _, name := range part {
			place[name] = i
		}
	}
	waits, callers := make([]int, len(parts)), make([][]int, len(parts))
	for i, part := range parts {
		for _, name := range part {
			for _, to := range calls[name] {
				if at := place[to]; at != i {
					waits[i]++
					callers[at] = append(callers[at], i)
				}
			}
		}
	}
	var ready []int // ascending
	for i := range parts {
		if waits[i] == 0 {
			ready = append(ready, i)
		}
	}
	var ordered [][]string
	for len(ready) > 0 {
		next := ready[0]
		ready = ready[1:]
		ordered = append(ordered, parts[next])
		for _, i := range callers[next] {
			waits[i]--
			if waits[i] == 0 {
				at, _ := slices.BinarySearch(ready, i)
				ready = slices.Insert(ready, at, i)
			}
		}
	}
	return ordered
}
