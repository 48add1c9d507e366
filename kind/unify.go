package kind

import (
	"slices"

	"plinth/api"
	"plinth/reader"
)

// A node is a part of a form that is unified. A variable has one node for all
// places at which it stands. So what is known of it is not copied to these
// places: types that are written out may have very many parts.
type node struct {
	form     api.Form
	variable bool
	kids     []*node
	// same is what a variable is known to be, and a list that a list was made
	// equal to: nil, if there is none.
	same *node
	// search is the last search that came here.
	search int
	// written says that form is the type as it is written out.
	written bool
}

// A unifier makes forms equal.
type unifier struct {
	vars     map[string]*node
	searches int
}

// unified does what UnifyAll does, and stops with its errors.
func unified(a, b []api.Form, vars []string) []Pair {
	u := &unifier{vars: variables(vars)}
	for _, f := range slices.Concat(a, b) {
		must(reader.Valid(f), api.ErrArg)
	}
	u.unifyEach(u.nodesOf(a), u.nodesOf(b))
	return u.pairs()
}

// variables are nodes of variables, by their names.
func variables(names []string) map[string]*node {
	vars := map[string]*node{}
	for _, name := range names {
		must(isName(name) && vars[name] == nil, api.ErrArg)
		vars[name] = &node{form: api.Form{Kind: api.Word, Text: name}, variable: true}
	}
	return vars
}

// nodeOf is the node of a valid form that stands at a place.
func (u *unifier) nodeOf(f api.Form, at place) *node {
	if v := u.vars[f.Text]; v != nil && mayReplace(f, at) {
		return v
	}
	n := &node{form: f}
	for i, kid := range f.Kids {
		n.kids = append(n.kids, u.nodeOf(kid, placeOf(f, at, i)))
	}
	return n
}

// nodesOf are the nodes of types that stand side by side, in no list.
func (u *unifier) nodesOf(types []api.Form) []*node {
	nodes := make([]*node, len(types))
	for i, t := range types {
		nodes[i] = u.nodeOf(t, aType)
	}
	return nodes
}

// unifyEach makes nodes equal, one by one. That there are more on one side is
// met behind those that both sides have.
func (u *unifier) unifyEach(a, b []*node) {
	for i := range min(len(a), len(b)) {
		u.unify(a[i], b[i])
	}
	must(len(a) == len(b), api.ErrType)
}

// unify makes two nodes equal.
func (u *unifier) unify(a, b *node) {
	a, b = a.value(), b.value()
	switch {
	case a == b:
	case a.variable:
		u.bind(a, b)
	case b.variable:
		u.bind(b, a)
	case a.form.Kind == api.List && b.form.Kind == api.List:
		u.unifyLists(a, b)
	default:
		must(reader.Equal(a.form, b.form), api.ErrType)
	}
}

// bind makes a variable of which nothing is known equal to another node.
func (u *unifier) bind(v, n *node) {
	u.searches++
	must(!u.finds(v, n), api.ErrLoop)
	v.same = n
}

// finds tells whether a variable stands in a node, as far as is known. It
// looks at lists as they stand, not at those that they were made equal to:
// between these there may be parts that are still to be made equal.
func (u *unifier) finds(v, n *node) bool {
	n = n.value()
	if n == v {
		return true
	}
	if n.search == u.searches {
		return false
	}
	n.search = u.searches
	return slices.ContainsFunc(n.kids, func(kid *node) bool { return u.finds(v, kid) })
}

// unifyLists makes two lists equal. Those that were made so before are passed
// over: one that stands in many types would be gone through ever again.
func (u *unifier) unifyLists(a, b *node) {
	ours, theirs := a.root(), b.root()
	if ours == theirs {
		return
	}
	ours.same = theirs
	u.unifyEach(a.kids, b.kids)
}

// value is what a node is known to be: itself, if it is no variable, or one of
// which nothing is known.
func (n *node) value() *node {
	for n.variable && n.same != nil {
		if next := n.same; next.variable && next.same != nil {
			n.same = next.same // the way is shorter the next time
		}
		n = n.same
	}
	return n
}

// root is the one list of all those that were made equal to a list.
func (n *node) root() *node {
	for n.same != nil {
		if next := n.same; next.same != nil {
			n.same = next.same
		}
		n = n.same
	}
	return n
}

// pairs are the variables of which something is known, with their types.
func (u *unifier) pairs() []Pair {
	known := map[string]api.Form{}
	for name, v := range u.vars {
		if v.same != nil {
			known[name] = v.write()
			must(reader.Valid(known[name]), api.ErrLimit)
		}
	}
	return withoutItself(ascending(known))
}

// write is a node as a form, written out. It does so once, so that forms share
// the parts that are the same.
func (n *node) write() api.Form {
	n = n.value()
	if n.written || len(n.kids) == 0 {
		return n.form
	}
	parts := make([]api.Form, len(n.kids))
	for i, kid := range n.kids {
		parts[i] = kid.write()
	}
	n.form.Kids = parts
	n.written = true
	return n.form
}
