package binder_test

import (
	"maps"
	"slices"
	"strconv"
	"strings"

	"plinth/api"
	"plinth/binder"
	"plinth/reader"
	"plinth/shape"
)

// The book says what stands where. b is a name that is bound, by the whole list
// behind the letter of the line; E and S are expressions and statements that it
// holds, e and s those that it does not. a is a name that is assigned. o, t and
// n are other names, types, and numbers: no variables. A and B are arms, which
// bind for themselves; what else is one letter has a line of its own. Behind a
// part .. means any number of it, .+ at least one, .? one or none. How far a var
// reaches, in a row of statements (s ..), the book does not say: see leaves.
const book = `
(e (+ e e) (neg e) (if e e e) (and e ..) (app e e ..) (call o (of t .+) .? e ..) (make o (of t .+) .? e ..) (is o e) (get o e)
	(bits n n) (seq e ..) (set e ..) (map (e e) ..) (empty t) (imap e t) (old e) (old o e) (fuel n o e) (prefix o e e ..)
	(let (b e) E) (let (b e) E) (pick (b e e) E E) (match e A .+) (match e A .+) (fn ((b t) ..) E) (fn ((b t) ..) E)
	(forall ((b t) .+) (trigger E .+) .. E) (exists ((b t) .+) (trigger E .+) .. E)
	(all (b e e) E) (some (b e e) E) (every (b e) E) (any (b e) E))
(A (o (b ..) E))
(s (set a e) (store e o e) (new a o (o e) ..) (call (a ..) o e ..) (send (a ..) e o e ..) (choose a e e e) (if e (s ..) (s ..)) (while e (C ..) s ..)
	(case e B .+) (case e B .+) (assert e Y .?) (assume e) (expect e) (leave) (label o s ..) (each (b e e) (store E o E)) (lemma (b e e) (requires E) o E ..)
	(calc e J ..) (reveal o) (ghost s ..) (block s ..) (var b t e .?) (var b t e .?) (var b t e .?) (var b t e .?))
(B (o (b ..) S ..))
(C (invariant e) (decreases e ..) (modifies e ..))
(J (= e Y .?) (< e Y .?) (iff e Y .?))
(Y (by s ..))
`

// pool are the names of all things in made forms.
var pool = strings.Fields("x y z x_1 y_1 x_2 v_0 v_1 v_3 abcdefghijklmnopqrst")

// A grammar has what each letter stands for.
type grammar map[string][]api.Form

func readBook() grammar {
	lines, err := reader.Read(book)
	if err != api.OK {
		panic("the book cannot be read")
	}
	g := grammar{}
	for _, line := range lines {
		g[reader.Head(line)] = line.Kids[1:]
	}
	return g
}

// A leaf is what a letter stands for in a row of forms: a row, too, with its
// path, of which the first number is an index of the row.
type leaf struct {
	letter string
	path   []int
	row    []api.Form
}

// times is the first of some patterns, and how often it may stand there.
func times(patterns []api.Form) (p api.Form, rest []api.Form, least, most int) {
	p, rest, least, most = patterns[0], patterns[1:], 1, 1
	if len(rest) == 0 {
		return p, rest, least, most
	}
	switch rest[0].Text {
	case "..":
		return p, rest[1:], 0, 1 << 30
	case ".+":
		return p, rest[1:], 1, 1 << 30
	case ".?":
		return p, rest[1:], 0, 1
	}
	return p, rest, least, most
}

// align finds the leaves in l[at:], which stands at a path, by a row of
// patterns. Of what may stand there often, it takes as many as it can.
func (g grammar) align(patterns, l []api.Form, path []int, at int) ([]leaf, bool) {
	if len(patterns) == 0 {
		return nil, at == len(l)
	}
	p, rest, least, most := times(patterns)
	if p.Text == "s" || p.Text == "S" {
		return []leaf{{p.Text, slices.Concat(path, []int{at}), l[at:]}}, true
	}
	var found [][]leaf
	for len(found) < most && at+len(found) < len(l) {
		i := at + len(found)
		one, ok := g.alignOne(p, l[i], slices.Concat(path, []int{i}))
		if !ok {
			break
		}
		found = append(found, one)
	}
	for n := len(found); n >= least; n-- {
		if more, ok := g.align(rest, l, path, at+n); ok {
			return slices.Concat(slices.Concat(found[:n]...), more), true
		}
	}
	return nil, false
}

func (g grammar) alignOne(p, f api.Form, path []int) ([]leaf, bool) {
	if p.Kind == api.List {
		if f.Kind != api.List {
			return nil, false
		}
		return g.align(p.Kids, f.Kids, path, 0)
	}
	switch letter := p.Text; letter {
	case "o", "t", "n":
		return nil, true
	case "a", "b", "e", "E", "A", "B":
		special := slices.Contains([]string{"of", "by", "trigger"}, reader.Head(f))
		return []leaf{{letter, path, []api.Form{f}}}, !special
	case "C", "J", "Y":
		return g.anyOf(letter, f, path)
	}
	return nil, reader.Equal(p, f)
}

// anyOf finds the leaves of a form by one of the patterns of a letter.
func (g grammar) anyOf(letter string, f api.Form, path []int) ([]leaf, bool) {
	for _, way := range g[letter] {
		if found, ok := g.alignOne(way, f, path); ok {
			return found, true
		}
	}
	return nil, false
}

// leaves are those of what a letter stands for. A row of statements is its first
// one (which has no letter in the book: 1) and the others, or, if that is a var,
// what the var has and holds.
func (g grammar) leaves(letter string, row []api.Form) []leaf {
	switch {
	case (letter == "s" || letter == "S") && len(row) == 0:
		return nil
	case letter == "s" || letter == "S":
		if reader.Head(row[0]) != "var" {
			return []leaf{{"1", []int{0}, row[:1]}, {"s", []int{1}, row[1:]}}
		}
		found, _ := g.anyOf("s", row[0], []int{0})
		return append(found, leaf{"S", []int{1}, row[1:]})
	case letter == "1":
		letter = "s"
	case letter == "E":
		letter = "e"
	}
	if row[0].Kind != api.List {
		return nil
	}
	found, ok := g.anyOf(letter, row[0], []int{0})
	if !ok {
		panic("not in the book: " + letter + " " + reader.Write(row[0]))
	}
	return found
}

// put is a row with other forms from a path on.
func put(row []api.Form, path []int, with []api.Form) []api.Form {
	row = slices.Clone(row)
	if len(path) == 1 {
		copy(row[path[0]:], with)
	} else {
		row[path[0]].Kids = put(row[path[0]].Kids, path[1:], with)
	}
	return row
}

// isUse tells whether a row is a word that is a variable.
func isUse(letter string, row []api.Form) bool {
	return (letter == "e" || letter == "E") && row[0].Kind == api.Word && !slices.Contains([]string{"true", "false", "null", "this", "result"}, row[0].Text)
}

// A set of names.
type set map[string]bool

// eachUse shows the uses in a row, with whether they are assigned.
func (g grammar) eachUse(letter string, row []api.Form, bound set, show func(name string, assigned, free bool)) {
	if isUse(letter, row) {
		show(row[0].Text, false, !bound[row[0].Text])
		return
	}
	within := maps.Clone(bound)
	for _, l := range g.leaves(letter, row) {
		switch l.letter {
		case "b":
			within[l.row[0].Text] = true
		case "a":
			show(l.row[0].Text, true, !bound[l.row[0].Text])
		case "E", "S":
			g.eachUse(l.letter, l.row, within, show)
		default:
			g.eachUse(l.letter, l.row, bound, show)
		}
	}
}

// eachBound shows the names in a row that are bound.
func (g grammar) eachBound(letter string, row []api.Form, show func(name string)) {
	for _, l := range g.leaves(letter, row) {
		if l.letter == "b" {
			show(l.row[0].Text)
		} else if l.letter != "a" {
			g.eachBound(l.letter, l.row, show)
		}
	}
}

// free are the names that are free in a row.
func (g grammar) free(letter string, row []api.Form) set {
	found := set{}
	g.eachUse(letter, row, set{}, func(name string, _, free bool) {
		if free {
			found[name] = true
		}
	})
	return found
}

// words are all names of variables in a row, those that are bound too.
func (g grammar) words(letter string, row []api.Form) set {
	found := set{}
	g.eachUse(letter, row, set{}, func(name string, _, _ bool) { found[name] = true })
	g.eachBound(letter, row, func(name string) { found[name] = true })
	return found
}

// replace replaces as the chapter says, from outside to inside. It stops with
// ErrType.
func (g grammar) replace(letter string, row []api.Form, by map[string]api.Form) []api.Form {
	if isUse(letter, row) {
		if to, ok := by[row[0].Text]; ok {
			return []api.Form{to}
		}
		return row
	}
	within := g.within(letter, row, by)
	for _, l := range g.leaves(letter, row) {
		switch l.letter {
		case "b":
			if to, ok := within[l.row[0].Text]; ok {
				row = put(row, l.path, []api.Form{to})
			}
		case "a":
			if to, ok := by[l.row[0].Text]; ok {
				if to.Kind != api.Word || !shape.IsName(to.Text) {
					panic(api.ErrType)
				}
				row = put(row, l.path, []api.Form{to})
			}
		case "E", "S":
			row = put(row, l.path, g.replace(l.letter, l.row, within))
		default:
			row = put(row, l.path, g.replace(l.letter, l.row, by))
		}
	}
	return row
}

// within is by what names are replaced in what a binder holds: its own ones that
// get others are among them.
func (g grammar) within(letter string, row []api.Form, by map[string]api.Form) map[string]api.Form {
	var own []string
	held := set{}
	for _, l := range g.leaves(letter, row) {
		switch l.letter {
		case "b":
			own = append(own, l.row[0].Text)
		case "E", "S":
			maps.Copy(held, g.free(l.letter, l.row))
		}
	}
	within, avoided, caught := maps.Clone(by), g.words(letter, row), set{}
	for _, name := range own {
		delete(within, name)
	}
	for name, to := range within {
		if held[name] {
			avoided[name] = true
			maps.Copy(avoided, g.words("e", []api.Form{to}))
			maps.Copy(caught, g.free("e", []api.Form{to}))
		}
	}
	for _, name := range own {
		if caught[name] {
			other := binder.Fresh(name, slices.Collect(maps.Keys(avoided)))
			avoided[other] = true
			within[name] = word(other)
		}
	}
	return within
}

// renamed gives each binding the name that other says, one by one as they are
// met, whether or not that name is bound or free elsewhere.
func (g grammar) renamed(letter string, row []api.Form, by map[string]api.Form, other func(name string) string) []api.Form {
	if isUse(letter, row) {
		return g.replace(letter, row, by)
	}
	within := maps.Clone(by)
	for _, l := range g.leaves(letter, row) {
		switch l.letter {
		case "b":
			within[l.row[0].Text] = word(other(l.row[0].Text))
			row = put(row, l.path, []api.Form{within[l.row[0].Text]})
		case "a":
			if to, ok := by[l.row[0].Text]; ok {
				row = put(row, l.path, []api.Form{to})
			}
		case "E", "S":
			row = put(row, l.path, g.renamed(l.letter, l.row, within, other))
		default:
			row = put(row, l.path, g.renamed(l.letter, l.row, by, other))
		}
	}
	return row
}

// numbered gives each binding a number behind a word, but for numbers that are
// passed over.
func (g grammar) numbered(letter string, row []api.Form, ahead string, over set) []api.Form {
	n := -1
	return g.renamed(letter, row, map[string]api.Form{}, func(string) string {
		for n++; over[ahead+strconv.Itoa(n)]; n++ {
		}
		return ahead + strconv.Itoa(n)
	})
}

// A maker makes forms by a grammar, with few names.
type maker struct {
	grammar
	dice
}

// form is a form that a pattern lets, of at most about that depth.
func (m *maker) form(pattern api.Form, depth int) api.Form {
	if pattern.Kind == api.List {
		return list(m.forms(pattern.Kids, depth)...)
	}
	letter := strings.ToLower(pattern.Text)
	if ways, ok := m.grammar[pattern.Text]; ok && letter != "e" {
		return m.form(ways[m.below(len(ways))], depth-1)
	}
	switch letter {
	case "e":
		if depth > 0 && m.below(5) > 0 {
			ways := m.grammar["e"]
			return m.form(ways[m.below(len(ways))], depth-1)
		}
		return m.atom()
	case "s":
		ways := m.grammar["s"]
		return m.form(ways[m.below(len(ways))], depth-1)
	case "a":
		if m.below(12) == 0 {
			return word("result")
		}
		return m.name()
	case "b", "o":
		return m.name()
	case "t":
		return []api.Form{word("int"), m.name(), list(word("seq"), m.name())}[m.below(3)]
	case "n":
		return num(1 + m.below(9))
	}
	return pattern
}

func (m *maker) name() api.Form {
	return word(pool[m.below(len(pool))])
}

func (m *maker) atom() api.Form {
	if m.below(8) > 0 {
		return m.name()
	}
	return []api.Form{num(m.below(9)), word("true"), word("this"), word("result"), word("_")}[m.below(5)]
}

// forms are forms that a row of patterns lets. No two of them begin with the
// same word where they might be what one list may not have twice.
func (m *maker) forms(patterns []api.Form, depth int) []api.Form {
	var l []api.Form
	for len(patterns) > 0 {
		p, rest, least, most := times(patterns)
		first := p
		if p.Kind == api.List {
			first = p.Kids[0]
		}
		once, differ := set{}, strings.Contains("a b C", first.Text)
		more := min(least+m.below(4), most)
		if depth <= 0 {
			more = least
		}
		for range more {
			f := m.form(p, depth)
			name := f.Text + reader.Head(f)
			if differ && once[name] {
				continue
			}
			once[name] = true
			l = append(l, f)
		}
		patterns = rest
	}
	return l
}

// whole is an expression or a list of statements, with its letter and itself as
// a row.
func (m *maker) whole() (f api.Form, letter string, row []api.Form) {
	for {
		f, letter = m.form(word("e"), 1+m.below(4)), "e"
		if m.below(2) == 0 {
			f, letter = list(m.forms([]api.Form{word("s"), word("..")}, 2+m.below(3))...), "s"
		}
		if _, err := binder.Free(f); err == api.OK && reader.Size(f) < 150 {
			break
		}
	}
	if letter == "s" {
		return f, letter, f.Kids
	}
	return f, letter, []api.Form{f}
}

// pairs replace some names, often by names.
func (m *maker) pairs() []binder.Pair {
	var by []binder.Pair
	for _, name := range pool {
		if m.below(3) > 0 {
			continue
		}
		to := m.name()
		for m.below(3) == 0 {
			to = m.form(word("e"), 2)
			if shape.Expr(to) == api.OK {
				break
			}
			to = m.name()
		}
		by = append(by, binder.Pair{Name: name, To: to})
	}
	return by
}
