package typing

import (
	"plinth/api"
	"plinth/kind"
	"plinth/reader"
)

// binder is the type of an expression that binds names.
func (w *walk) binder(head string, at place) (t api.Form) {
	w.within(func() {
		switch head {
		case "fn":
			t = w.fn(at)
		case "forall", "exists":
			t = w.quantifier(at)
		case "match":
			t = w.match(at)
		default:
			w.bound(head, at.kid(1))
			t = w.behind(head, at)
		}
	})
	return t
}

// bound goes through (x E ..), and brings x into sight, with the type that it has
// behind a head.
func (w *walk) bound(head string, at place) {
	told := w.exprs(at.kids(1)...)
	t := anInt()
	switch head {
	case "let":
		t = told[0]
	case "every", "any":
		t = w.arguments(told[0], "set")[0]
	default:
		w.allFit(anInt(), told...)
	}
	w.bind(at.form.Kids[0].Text, t)
}

// behind is the type of a binder of one name, which is in sight.
func (w *walk) behind(head string, at place) api.Form {
	switch head {
	case "let":
		return w.expr(at.kid(2))
	case "pick":
		w.truths(at.kid(2))
		return w.expr(at.kid(3))
	}
	w.truths(at.kid(2))
	return aBool()
}

// truths goes through expressions that must be truths.
func (w *walk) truths(l ...place) {
	w.allFit(aBool(), w.exprs(l...)...)
}

// fn is the type of (fn ((x T) ..) E).
func (w *walk) fn(at place) api.Form {
	var params []api.Form
	pairs := at.form.Kids[1].Kids
	w.asTyped(pairs)
	for _, pair := range pairs {
		params = append(params, pair.Kids[1])
	}
	w.bindAll(pairs)
	return list(word("fun"), list(params...), w.expr(at.kid(2)))
}

// quantifier is the type of forall and exists.
func (w *walk) quantifier(at place) api.Form {
	pairs := at.form.Kids[1].Kids
	w.asTyped(pairs)
	w.bindAll(pairs)
	last := len(at.form.Kids) - 1
	for _, trigger := range at.kids(2)[:last-2] {
		w.exprs(trigger.kids(1)...)
	}
	w.truths(at.kid(last))
	return aBool()
}

// match is the type of (match E (CTOR (x ..) E) ..). Arms are joined one by one.
func (w *walk) match(at place) (t api.Form) {
	isFirst := true
	w.arms(w.expr(at.kid(1)), at.kids(2), func(parts []place) {
		switch arm := w.expr(parts[0]); {
		case isFirst:
			t, isFirst = arm, false
		default:
			t = w.in.joined(t, arm)
		}
	})
	return t
}

// arms goes through arms, (CTOR (x ..) PART ..) .., of what has a type.
func (w *walk) arms(of api.Form, l []place, inside func(parts []place)) {
	data, by, ok := w.in.dataOf(w.in.base(of))
	must(ok, api.ErrType)
	for i, arm := range l {
		ctor, isCtor := w.in.ctors[reader.Head(arm.form)]
		names := arm.form.Kids[1].Kids
		must(isCtor && (i == 0 || ctor.data == data), api.ErrName) // as scope has it
		must(ctor.data == data && len(names) == len(ctor.fields), api.ErrType)
		w.within(func() {
			for i, x := range names {
				w.bind(x.Text, kind.Apply(ctor.fields[i].Kids[1], by))
			}
			inside(arm.kids(2))
		})
	}
}
