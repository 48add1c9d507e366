package inhabit_test

import (
	"slices"
	"strconv"
	"strings"

	"plinth/api"
	"plinth/reader"
)

// A book has what the chapter says, written out a second time: of types with all
// arguments put in.
type book struct {
	plans []plan
	// foundedOf, eqs and readies are by name.
	foundedOf, eqs, readies map[string]bool
	// inRounds has what readyIn told.
	inRounds map[string]bool
}

// bookOf is that of a program that a maker has made. It tells whether all could be
// told: there may be types without end.
func bookOf(plans []plan) (*book, bool) {
	b := &book{plans: plans, foundedOf: map[string]bool{}, eqs: map[string]bool{}, readies: map[string]bool{}, inRounds: map[string]bool{}}
	for _, d := range plans {
		whole := list(append([]api.Form{word(d.name)}, wordsOf(d.vars)...)...)
		if len(d.vars) == 0 {
			whole = word(d.name)
		}
		if d.head != "data" {
			continue
		}
		is, ok := b.founded(whole)
		if !ok {
			return nil, false
		}
		b.foundedOf[d.name] = is
	}
	b.findEqs()
	b.findReadies()
	return b, true
}

func wordsOf(names []string) []api.Form {
	var l []api.Form
	for _, name := range names {
		l = append(l, word(name))
	}
	return l
}

// plan is what is declared of the name that a type has, and its arguments.
func (b *book) plan(t api.Form) (plan, []api.Form, bool) {
	name, arguments := t.Text, []api.Form(nil)
	if t.Kind == api.List {
		name, arguments = reader.Head(t), t.Kids[1:]
	}
	i := slices.IndexFunc(b.plans, func(d plan) bool { return d.name == name })
	if i < 0 || len(b.plans[i].vars) != len(arguments) {
		return plan{}, nil, false
	}
	return b.plans[i], arguments, true
}

// put is a type with arguments in the place of words.
func put(t api.Form, vars []string, arguments []api.Form) api.Form {
	if i := slices.Index(vars, t.Text); t.Kind == api.Word && i >= 0 {
		return arguments[i]
	}
	kids := slices.Clone(t.Kids)
	for i, kid := range kids {
		kids[i] = put(kid, vars, arguments)
	}
	t.Kids = kids
	return t
}

// unfolded are the fields of the CTORs of a plan, with arguments put in.
func (d plan) unfolded(arguments []api.Form) [][]api.Form {
	var all [][]api.Form
	for _, c := range d.ctors {
		fields := []api.Form{}
		for _, t := range c.types {
			fields = append(fields, put(t, d.vars, arguments))
		}
		all = append(all, fields)
	}
	return all
}

// An occurrence is a type that is met somewhere.
type occurrence struct {
	sign   int
	closed bool
	text   string
}

const tooMany = 4000

// positive unfolds data again and again, and looks where they stand.
func (b *book) positive(d plan) (is, ok bool) {
	seen := map[occurrence]bool{}
	var next []occurrence
	var look func(t api.Form, sign int, closed bool)
	look = func(t api.Form, sign int, closed bool) {
		switch reader.Head(t) {
		case "seq":
			look(t.Kids[1], sign, closed)
		case "set", "bag":
			look(t.Kids[1], sign, true)
		case "map":
			look(t.Kids[1], sign, true)
			look(t.Kids[2], sign, closed)
		case "imap":
			look(t.Kids[1], sign, true)
			look(t.Kids[2], sign, true)
		case "fun":
			for _, argument := range t.Kids[1].Kids {
				look(argument, -sign, closed)
			}
			look(t.Kids[2], sign, closed)
		}
		o := occurrence{sign, closed, reader.Write(t)}
		if _, _, ok := b.plan(t); ok && !seen[o] {
			seen[o] = true
			next = append(next, o)
		}
	}
	for _, fields := range d.unfolded(wordsOf(d.vars)) {
		for _, t := range fields {
			look(t, 1, false)
		}
	}
	for ; len(next) > 0; next = next[1:] {
		o := next[0]
		other, arguments, _ := b.plan(form(o.text))
		if other.name == d.name && (o.sign < 0 || o.closed) {
			return false, true
		}
		if len(seen) > tooMany || len(o.text) > 400 {
			return false, false
		}
		for _, fields := range other.unfolded(arguments) {
			for _, t := range fields {
				look(t, o.sign, o.closed)
			}
		}
	}
	return true, true
}

// founded finds out by rounds whether a type has a value, looking at all types
// that it leads to.
func (b *book) founded(t api.Form) (is, ok bool) {
	met := []api.Form{t}
	at := map[string]bool{reader.Write(t): false}
	simple := func(t api.Form) (api.Form, bool) {
		for reader.Head(t) == "imap" {
			t = t.Kids[2]
		}
		d, _, isPlan := b.plan(t)
		return t, !isPlan || d.head == "codata"
	}
	for i := 0; i < len(met); i++ {
		if len(met) > 60 {
			return false, false
		}
		d, arguments, isPlan := b.plan(met[i])
		if !isPlan {
			continue
		}
		for _, fields := range d.unfolded(arguments) {
			for _, t := range fields {
				inner, is := simple(t)
				if s := reader.Write(inner); !is {
					if _, known := at[s]; !known {
						at[s] = false
						met = append(met, inner)
					}
				}
			}
		}
	}
	for range len(met) + 1 {
		told := map[string]bool{}
		for _, t := range met {
			d, arguments, _ := b.plan(t)
			for _, fields := range d.unfolded(arguments) {
				all := true
				for _, t := range fields {
					inner, is := simple(t)
					all = all && (is || at[reader.Write(inner)])
				}
				told[reader.Write(t)] = told[reader.Write(t)] || all
			}
		}
		at = told
	}
	return at[reader.Write(t)], true
}

// has tells whether a type has a value that is no deeper than told.
func (b *book) has(t api.Form, deep int, known map[string]bool) bool {
	d, arguments, isPlan := b.plan(t)
	switch {
	case reader.Head(t) == "imap":
		return b.has(t.Kids[2], deep, known)
	case !isPlan || d.head == "codata":
		return true
	case deep == 0:
		return false
	}
	key := reader.Write(t) + strconv.Itoa(deep)
	if is, before := known[key]; before {
		return is
	}
	known[key] = slices.ContainsFunc(d.unfolded(arguments), func(fields []api.Form) bool {
		return !slices.ContainsFunc(fields, func(t api.Form) bool { return !b.has(t, deep-1, known) })
	})
	return known[key]
}

// comparable tells of a type in a plan by what is known of names.
func (b *book) comparable(t api.Form, in plan) bool {
	all := func(l []api.Form) bool {
		return !slices.ContainsFunc(l, func(t api.Form) bool { return !b.comparable(t, in) })
	}
	switch reader.Head(t) {
	case "fun", "imap":
		return false
	case "bits", "maybe":
		return true
	case "seq", "set", "bag", "map":
		return all(t.Kids[1:])
	}
	if slices.Contains(in.vars, t.Text) {
		return slices.Contains(in.eq, t.Text)
	}
	d, arguments, isPlan := b.plan(t)
	return !isPlan || b.eqs[d.name] && all(arguments)
}

// findEqs takes all to be comparable, and looks so often that no one is left that
// is not.
func (b *book) findEqs() {
	for _, d := range b.plans {
		b.eqs[d.name] = d.head != "codata"
	}
	for range b.plans {
		told := map[string]bool{}
		for _, d := range b.plans {
			told[d.name] = b.eqs[d.name]
			for _, c := range d.ctors {
				for _, t := range c.types {
					told[d.name] = told[d.name] && b.comparable(t, d)
				}
			}
		}
		b.eqs = told
	}
}

// ready tells whether a type is ready, data by their names alone.
func (b *book) ready(t api.Form) bool {
	switch head := reader.Head(t); head {
	case "imap":
		return b.ready(t.Kids[2])
	case "fun":
		return false
	case "bits", "maybe", "seq", "set", "bag", "map":
		return true
	}
	d, _, isPlan := b.plan(t)
	if !isPlan {
		return t.Text == "int" || t.Text == "bool"
	}
	return d.head == "sub" || b.readies[d.name]
}

func (b *book) findReadies() {
	for range b.plans {
		told := map[string]bool{}
		for _, d := range b.plans {
			told[d.name] = b.foundedOf[d.name] && slices.ContainsFunc(d.ctors, func(c made) bool {
				return !slices.ContainsFunc(c.types, func(t api.Form) bool { return !b.ready(t) })
			})
		}
		b.readies = told
	}
}

// readyIn tells whether a type is ready in a round, with its arguments put in.
func (b *book) readyIn(t api.Form, round int) bool {
	if reader.Head(t) == "imap" {
		return b.readyIn(t.Kids[2], round)
	}
	d, arguments, isPlan := b.plan(t)
	if !isPlan || d.head != "data" {
		return b.ready(t)
	}
	key := strconv.Itoa(round) + reader.Write(t)
	if is, known := b.inRounds[key]; known {
		return is
	}
	b.inRounds[key] = b.foundedOf[d.name] && round > 0 && b.chosen(d, arguments, round) >= 0
	return b.inRounds[key]
}

// chosen is the first CTOR that is ready in a round.
func (b *book) chosen(d plan, arguments []api.Form, round int) int {
	return slices.IndexFunc(d.unfolded(arguments), func(fields []api.Form) bool {
		return !slices.ContainsFunc(fields, func(t api.Form) bool { return !b.readyIn(t, round-1) })
	})
}

// enough rounds are more than the types need that a maker makes.
const enough = 15

// witness is that of a type as a text, or an error.
func (b *book) witness(t api.Form) string {
	is := b.ready(t)
	if reader.Head(t) == "imap" { // ready, whatever its value is, but it needs one
		is = b.readyIn(t, enough)
	}
	if !is {
		return "error 3"
	}
	return b.made(t)
}

// made is the witness of a type that is ready.
func (b *book) made(t api.Form) string {
	switch head := reader.Head(t); head {
	case "bits":
		return "(bits " + reader.Write(t.Kids[1]) + " 0)"
	case "maybe":
		return "null"
	case "imap":
		return "(imap " + b.made(t.Kids[2]) + " " + reader.Write(t.Kids[1]) + ")"
	case "seq", "set", "bag", "map":
		return "(empty " + reader.Write(t) + ")"
	}
	d, arguments, isPlan := b.plan(t)
	switch {
	case t.Text == "int":
		return "0"
	case !isPlan:
		return "false"
	case d.head == "sub":
		of := reader.Write(d.ctors[0].types[0])
		return "(look (empty (map int " + of + ")) 0)"
	}
	for round := 1; ; round++ {
		if at := b.chosen(d, arguments, round); at >= 0 {
			s := "(make " + d.ctors[at].name
			if len(arguments) > 0 {
				s += " (of " + written(arguments...) + ")"
			}
			for _, t := range d.unfolded(arguments)[at] {
				s += " " + b.made(t)
			}
			return s + ")"
		}
	}
}

// inCircle tells whether a plan stands in itself, by the words in it.
func (b *book) inCircle(d plan) bool {
	reached := map[string]bool{}
	var reach func(d plan)
	reach = func(d plan) {
		for _, c := range d.ctors {
			for _, w := range strings.FieldsFunc(written(c.types...), func(r rune) bool { return r == '(' || r == ')' || r == ' ' }) {
				i := slices.IndexFunc(b.plans, func(d plan) bool { return d.name == w })
				if i >= 0 && !reached[w] {
					reached[w] = true
					reach(b.plans[i])
				}
			}
		}
	}
	reach(d)
	return reached[d.name]
}

// count is how many values there are of a type: -1 for more. It works with numbers
// up to 10000, as many as matter.
func (b *book) count(t api.Form) int {
	n := b.reckon(t)
	if n > 1000 {
		return -1
	}
	return n
}

const endless = 10000

func (b *book) reckon(t api.Form) int {
	power := func(base, times int) int {
		n := 1
		for range min(times, 20) {
			n = min(n*base, endless)
		}
		return n
	}
	only := func(is bool) int {
		if is {
			return 1
		}
		return endless
	}
	switch reader.Head(t) {
	case "bits":
		return power(2, t.Kids[1].N)
	case "seq", "bag":
		return only(b.reckon(t.Kids[1]) == 0)
	case "set":
		return power(2, b.reckon(t.Kids[1]))
	case "map":
		return power(b.reckon(t.Kids[2])+1, b.reckon(t.Kids[1]))
	case "imap", "fun":
		return only(b.reckon(t.Kids[2]) == 1)
	}
	d, arguments, isPlan := b.plan(t)
	switch {
	case t.Text == "bool":
		return 2
	case !isPlan || d.head == "sub":
		return endless
	case d.head == "data" && !b.foundedOf[d.name]:
		return 0
	case b.inCircle(d):
		return only(d.head == "codata" && b.isAlone(d))
	}
	all := 0
	for _, fields := range d.unfolded(arguments) {
		n := 1
		for _, t := range fields {
			n = min(n*b.reckon(t), endless)
		}
		all = min(all+n, endless)
	}
	return all
}

// isAlone tells whether nothing but a plan itself stands in its one CTOR.
func (b *book) isAlone(d plan) bool {
	return len(d.ctors) == 1 && len(d.ctors[0].types) > 0 && !slices.ContainsFunc(d.ctors[0].types, func(t api.Form) bool {
		other, _, _ := b.plan(t)
		return other.name != d.name
	})
}

// values are those of a type, of which each one is no deeper than told, or else
// that they are without end.
func (b *book) values(t api.Form, deep int) (all []string, noEnd bool) {
	inner := func(i int) ([]string, bool) { return b.values(t.Kids[i], deep) }
	switch reader.Head(t) {
	case "bits":
		for i := range 1 << t.Kids[1].N {
			all = append(all, strconv.Itoa(i))
		}
		return all, false
	case "seq", "bag":
		items, noEnd := inner(1)
		return []string{"none"}, noEnd || len(items) > 0
	case "set":
		items, noEnd := inner(1)
		return tables(items, []string{"in"}), noEnd || len(items) > 10
	case "map":
		keys, noEnd := inner(1)
		to, noEnd2 := inner(2)
		if len(keys) == 0 && !noEnd || len(to) == 0 && !noEnd2 {
			return []string{"none"}, false
		}
		return tables(keys, to), noEnd || noEnd2 || len(keys) > 10
	case "imap":
		to, noEnd := inner(2)
		return to, noEnd || len(to) > 1
	case "fun":
		to, noEnd := inner(2)
		return to, noEnd || len(to) != 1
	}
	d, arguments, isPlan := b.plan(t)
	switch {
	case t.Text == "bool":
		return []string{"false", "true"}, false
	case !isPlan:
		return nil, true
	case d.head == "sub": // there are some of the others, it is not known which
		all, noEnd := b.values(d.ctors[0].types[0], deep)
		return nil, noEnd || len(all) > 0
	case deep == 0 || reader.Size(t) > 1000:
		return nil, false
	case d.head == "codata" && b.isAlone(d):
		return []string{"round"}, false
	}
	for i, fields := range d.unfolded(arguments) {
		l, without := b.rows(fields, deep-1)
		noEnd = noEnd || without
		for _, s := range l {
			all = append(all, d.ctors[i].name+"("+s+")")
		}
	}
	return all, noEnd
}

// rows are all rows of values of types.
func (b *book) rows(types []api.Form, deep int) (all []string, noEnd bool) {
	all = []string{""}
	for _, t := range types {
		l, without := b.values(t, deep)
		if len(l) == 0 && !without {
			return nil, false
		}
		noEnd = noEnd || without
		var longer []string
		for _, front := range all {
			for _, s := range l {
				if len(longer) < 3*1000 {
					longer = append(longer, front+" "+s)
				}
			}
		}
		all = longer
	}
	return all, noEnd
}

// tables are all ways to give some keys a value, or none.
func tables(keys, to []string) []string {
	all := []string{""}
	for _, key := range keys[:min(10, len(keys))] {
		for _, front := range slices.Clone(all) {
			for _, s := range to {
				if len(all) < 3*1000 {
					all = append(all, front+" "+key+":"+s)
				}
			}
		}
	}
	return all
}
