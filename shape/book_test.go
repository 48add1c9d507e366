package shape_test

import (
	"slices"
	"strconv"

	"plinth/api"
	"plinth/reader"
	"plinth/shape"
)

// The book is the grammar as the chapter writes it. A capital letter stands for
// what its line says, or for what the functions atom and make say; behind a part
// .. means any number of it, .+ at least one, .? one or none. All else stands
// for itself. S are the statements of a method, R those of a function's by.
const book = `
(E A
	(+ E E) (- E E) (* E E) (div E E) (mod E E) (neg E) (< E E) (<= E E) (= E E)
	(not E) (and E ..) (or E ..) (=> E E) (iff E E) (if E E E)
	(let (X E) E) (pick (X E E) E E) (match E (X (X ..) E) .+) (fn ((X T) ..) E) (app E E ..)
	(call X (of T .+) .? E ..) (make X (of T .+) .? E ..) (is X E) (get X E)
	(bits B V) (band E E) (bor E E) (bxor E E) (badd E E) (bnum E)
	(seq E ..) (set E ..) (bag E ..) (map (E E) ..) (empty T) (imap E T)
	(len E) (at E E) (cat E E) (cut E E E) (put E E E) (in E E) (join E E) (meet E E) (less E E) (card E) (count E E) (look E E) (keys E)
	(all (X E E) E) (some (X E E) E) (every (X E) E) (any (X E) E)
	(forall ((X T) .+) (trigger E .+) .. E) (exists ((X T) .+) (trigger E .+) .. E)
	(old E) (old X E) (fresh E) (fuel L X E) (prefix X E E ..))
(S (var X T) (var X T E) (set X E) (store E X E) (new X X (X E) ..) (call (X ..) X E ..) (send (X ..) E X E ..) (choose X E E E)
	(if E (S ..) (S ..)) (while E (C ..) S ..) (case E (X (X ..) S ..) .+)
	(assert E) (assert E (by S ..)) (assume E) (expect E) (leave) (label X S ..) (each (X E E) (store E X E))
	(lemma (X E E) (requires E) X E ..) (calc E J ..)
	(reveal X) (ghost S ..) (block S ..))
(Y (by S ..))
(J (= E Y .?) (<= E Y .?) (< E Y .?) (=> E Y .?) (iff E Y .?))
(C (invariant E) (decreases E ..) (modifies E ..))
(R (var X T) (var X T E) (set Z E) (store E X E) (new Z X (X E) ..) (call (Z ..) X E ..) (send (Z ..) E X E ..) (choose Z E E E)
	(if E (R ..) (R ..)) (while E (C ..) R ..) (case E (X (X ..) R ..) .+)
	(assert E) (assert E (by R ..)) (assume E) (expect E) (leave) (label X R ..) (each (X E E) (store E X E))
	(lemma (X E E) (requires E) X E ..) (calc E I ..)
	(reveal X) (ghost R ..) (block R ..))
(W (by R ..))
(I (= E W .?) (<= E W .?) (< E W .?) (=> E W .?) (iff E W .?))
(D (data X (X ..) (X (X T) ..) .+) (codata X (X ..) (X (X T) ..) .+) (sub X (X T) E E) (trait X (X ..) M ..) (class X (X ..) M ..)
	(least X ((X T) ..) E) (greatest X ((X T) ..) E) (extern X ((X T) ..) ((X T) ..) K .. (body S ..) .?) O P Q (ghost P) (ghost Q)
	(function X (tp X .+) ((X T) ..) T F .. E .?) (function X (tp X .+) ((X T) ..) T F .. W E) (ghost (function X (tp X .+) ((X T) ..) T F .. E .?))
	(predicate X (tp X .+) ((X T) ..) F .. E .?) (predicate X (tp X .+) ((X T) ..) F .. W E) (ghost (predicate X (tp X .+) ((X T) ..) F .. W E))
	(ghost (function X (tp X .+) ((X T) ..) T F .. W E)) (ghost (predicate X (tp X .+) ((X T) ..) F .. E .?)))
(M (field X T) (ghost (field X T)) O P Q (ghost P) (ghost Q))
(O (twostate X ((X T) ..) F .. E .?) (twostate X ((X T) ..) F .. W E) (lemma X ((X T) ..) ((X T) ..) K .. (body S ..) .?))
(P (function X ((X T) ..) T F .. E .?) (function X ((X T) ..) T F .. W E) (predicate X ((X T) ..) F .. E .?) (predicate X ((X T) ..) F .. W E))
(Q (method X ((X T) ..) ((X T) ..) K .. (body S ..) .?))
(F (requires E) (ensures E) (reads E ..) (decreases E ..) (opaque) (fuel N))
(K (requires E) (ensures E) (modifies E ..) (decreases E ..))
`

// A grammar has what each capital letter stands for.
type grammar map[string][]api.Form

func readBook() grammar {
	lines, err := reader.Read(book)
	if err != api.OK {
		panic("the book cannot be read")
	}
	g := grammar{}
	for _, line := range lines {
		g[reader.Head(line)] = line.Kids[1:]
	}
	return g
}

// atom tells whether a form is what a capital letter that has no line stands
// for, if it has none.
func atom(letter string, f api.Form) (fits, known bool) {
	number := func(low, high int) bool { return f.Kind == api.Num && low <= f.N && f.N <= high }
	isName := f.Kind == api.Word && shape.IsName(f.Text)
	switch letter {
	case "A":
		return number(-api.MaxInt, api.MaxInt) || f.Kind == api.Word &&
			(slices.Contains([]string{"true", "false", "null", "this", "result"}, f.Text) || !slices.Contains(shape.Reserved(), f.Text)), true
	case "X":
		return isName, true
	case "Z":
		return isName || f.Kind == api.Word && f.Text == "result", true
	case "T":
		return f.Kind == api.Word || f.Kind == api.List, true
	case "B":
		return number(1, 16), true
	case "V":
		return number(0, api.MaxInt), true
	case "L":
		return number(0, 9), true
	case "N":
		return number(-api.MaxInt, api.MaxInt), true
	}
	return false, false
}

// matches tells whether a form is as a pattern says.
func (g grammar) matches(pattern, f api.Form) bool {
	if pattern.Kind == api.List {
		return f.Kind == api.List && g.matchAll(pattern.Kids, f.Kids)
	}
	if fits, known := atom(pattern.Text, f); known {
		return fits
	}
	if ways, ok := g[pattern.Text]; ok {
		return slices.ContainsFunc(ways, func(way api.Form) bool { return g.matches(way, f) })
	}
	return reader.Equal(pattern, f)
}

// matchAll tells whether forms are as a row of patterns says.
func (g grammar) matchAll(patterns, l []api.Form) bool {
	if len(patterns) == 0 {
		return len(l) == 0
	}
	p, rest, least, most := times(patterns)
	for n := 0; ; n++ {
		if n >= least && g.matchAll(rest, l[n:]) {
			return true
		}
		if n >= len(l) || n >= most || !g.matches(p, l[n]) {
			return false
		}
	}
}

// times is the first of some patterns, and how often it may stand there.
func times(patterns []api.Form) (p api.Form, rest []api.Form, least, most int) {
	p, rest, least, most = patterns[0], patterns[1:], 1, 1
	if len(rest) == 0 {
		return p, rest, least, most
	}
	switch rest[0].Text {
	case "..":
		return p, rest[1:], 0, 1 << 30
	case ".+":
		return p, rest[1:], 1, 1 << 30
	case ".?":
		return p, rest[1:], 0, 1
	}
	return p, rest, least, most
}

// A maker makes forms by a grammar, with names that are all different.
type maker struct {
	grammar
	dice
	names int
}

// form is a form that a pattern lets, of at most about that depth.
func (m *maker) form(pattern api.Form, depth int) api.Form {
	if pattern.Kind == api.List {
		return list(m.forms(pattern.Kids, depth)...)
	}
	switch letter := pattern.Text; letter {
	case "A", "X", "Z", "T", "B", "V", "L", "N":
		return m.atom(letter)
	case "E":
		if depth <= 0 {
			return m.atom("A")
		}
		fallthrough
	default:
		ways, ok := m.grammar[letter]
		if !ok {
			return pattern
		}
		return m.form(ways[m.below(len(ways))], depth-1)
	}
}

// forms are forms that a row of patterns lets.
func (m *maker) forms(patterns []api.Form, depth int) []api.Form {
	var l []api.Form
	once := map[string]bool{}
	for len(patterns) > 0 {
		p, rest, least, most := times(patterns)
		more := min(least+m.below(3), most)
		if depth <= 0 {
			more = least
		}
		for range more {
			f := m.form(p, depth)
			name := label(f)
			if mayBeTwice := !slices.Contains([]string{"F", "K", "C", "Z"}, p.Text); !mayBeTwice && once[name] {
				continue
			}
			once[name] = true
			l = append(l, f)
		}
		patterns = rest
	}
	return l
}

func (m *maker) atom(letter string) api.Form {
	switch letter {
	case "A":
		return []api.Form{num(m.below(20) - 3), word("x"), word("true"), word("this"), word("result"), word("_")}[m.below(6)]
	case "B":
		return num(1 + m.below(16))
	case "V":
		return num(m.below(20))
	case "L":
		return num(m.below(10))
	case "N":
		return num(m.below(20) - 5)
	case "T":
		return []api.Form{word("int"), word("a"), list(), list(word("seq"), word("int")), list(word("requires"), num(1))}[m.below(5)]
	}
	if letter == "Z" && m.below(4) == 0 {
		return word("result")
	}
	m.names++
	return word("n" + strconv.Itoa(m.names))
}
