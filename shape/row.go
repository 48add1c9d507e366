package shape

import (
	"plinth/api"
	"plinth/reader"
)

// A part is what a shape says of one Kid of a list.
type part struct {
	// fits tells from outside whether a Kid may stand there.
	fits func(kid api.Form) bool
	// inside goes on with what stands in a Kid that fits. It is nil where
	// nothing does.
	inside func(kid api.Form)
	isExpr bool
}

// A row is what a shape says of Kids side by side: first its front, then any
// number of more, if it has that, then its back.
type row struct {
	front, back []part
	more        *part
}

// just is a row of so many Kids.
func just(parts ...part) row {
	return row{front: parts}
}

// any is a row with any number of Kids behind its front.
func (r row) any(more part) row {
	r.more = &more
	return r
}

// end is a row with more Kids at its end.
func (r row) end(back ...part) row {
	r.back = back
	return r
}

// some is a row of one Kid or more.
func some(p part) row {
	return just(p).any(p)
}

// lets tells whether a row may have so many Kids.
func (r row) lets(n int) bool {
	fixed := len(r.front) + len(r.back)
	return n == fixed || n > fixed && r.more != nil
}

// at is the part at an index of a row of n Kids.
func (r row) at(i, n int) part {
	behind := n - len(r.back)
	switch {
	case i < len(r.front):
		return r.front[i]
	case i < behind:
		return *r.more
	}
	return r.back[i-behind]
}

// ask stops with the first error of Kids that ought to be a row: what can be
// told from outside of all of them is asked ahead of what stands in any.
func (r row) ask(kids []api.Form) {
	n := len(kids)
	must(r.lets(n), api.ErrForm)
	for i, kid := range kids {
		must(r.at(i, n).fits(kid), api.ErrForm)
	}
	for i, kid := range kids {
		if p := r.at(i, n); p.inside != nil {
			p.inside(kid)
		}
	}
}

// anything fits where a Kid is asked as a whole when it is its turn.
func anything(api.Form) bool {
	return true
}

// aName is a word that is a name.
func aName() part {
	return part{fits: isNameForm}
}

// aType is a form that may be a type.
func aType() part {
	return part{fits: mayBeType}
}

// aNumber is a number within bounds.
func aNumber(low, high int) part {
	return part{fits: func(f api.Form) bool { return f.Kind == api.Num && low <= f.N && f.N <= high }}
}

// aList is a list of a row. What is asked of its Kids together is asked behind
// all that stands in it.
func aList(r row, together ...func(kids []api.Form)) part {
	return part{fits: isList, inside: func(f api.Form) {
		r.ask(f.Kids)
		for _, ask := range together {
			ask(f.Kids)
		}
	}}
}

// headed is a list with one of some heads, and what is asked of it then.
func headed(ask func(f api.Form), heads ...string) part {
	return part{fits: isList, inside: func(f api.Form) {
		must(hasHead(f, heads...), api.ErrForm)
		ask(f)
	}}
}

// behind is a list with a head, and a row behind it.
func behind(head string, r row) part {
	return headed(func(f api.Form) { r.ask(f.Kids[1:]) }, head)
}

// aTyped is a name with its type: (x T).
func aTyped() part {
	return aList(just(aName(), aType()))
}

// differ stops with ErrDup where two Kids have one name: as words, or as lists
// that begin with it.
func differ(kids []api.Form) {
	seen := map[string]bool{}
	for _, kid := range kids {
		if kid.Kind == api.List {
			kid = kid.Kids[0]
		}
		must(!seen[kid.Text], api.ErrDup)
		seen[kid.Text] = true
	}
}

// once stops with ErrDup where a clause stands twice that may stand but once.
func once(clauses []api.Form) {
	seen := map[string]bool{}
	for _, clause := range clauses {
		switch head := reader.Head(clause); head {
		case "decreases", "fuel", "opaque", "by":
			must(!seen[head], api.ErrDup)
			seen[head] = true
		}
	}
}
