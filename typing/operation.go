package typing

import (
	"plinth/api"
	"plinth/reader"
)

// operation is the type of what has a head, and operands of some types.
func (w *walk) operation(head string, told []api.Form) api.Form {
	switch head {
	case "+", "-", "*", "div", "mod", "neg":
		w.allFit(anInt(), told...)
		return anInt()
	case "<", "<=":
		w.allFit(anInt(), told...)
		return aBool()
	case "=":
		w.in.joined(told[0], told[1])
		return aBool()
	case "not", "and", "or", "=>", "iff":
		w.allFit(aBool(), told...)
		return aBool()
	case "if":
		w.fit(told[0], aBool())
		return w.in.joined(told[1], told[2])
	case "band", "bor", "bxor", "badd":
		w.arguments(told[0], "bits")
		return w.same(told)
	case "bnum":
		w.arguments(told[0], "bits")
		return anInt()
	case "fresh":
		w.object(told[0])
		return aBool()
	case "seq", "set", "bag":
		return list(word(head), w.joinedBase(told))
	}
	return w.collection(head, told)
}

// same is the base that two types have.
func (w *walk) same(told []api.Form) api.Form {
	base := w.in.base(told[0])
	must(reader.Equal(base, w.in.base(told[1])), api.ErrType)
	return base
}

// collection is the type of an operation on a seq, a set or their like.
func (w *walk) collection(head string, told []api.Form) api.Form {
	switch head {
	case "len":
		w.arguments(told[0], "seq")
		return anInt()
	case "at":
		item := w.arguments(told[0], "seq")[0]
		w.fit(told[1], anInt())
		return item
	case "cat":
		w.arguments(told[0], "seq")
		return w.same(told)
	case "cut":
		w.arguments(told[0], "seq")
		w.allFit(anInt(), told[1:]...)
	case "put":
		w.put(told)
	case "in":
		w.fit(told[0], w.arguments(told[1], "set", "bag", "map")[0])
		return aBool()
	case "join":
		w.arguments(told[0], "set", "bag", "map")
		return w.same(told)
	case "meet":
		w.arguments(told[0], "set", "bag")
		return w.same(told)
	case "less":
		w.less(told)
	case "card":
		w.arguments(told[0], "set", "bag", "map")
		return anInt()
	case "count":
		w.fit(told[0], w.arguments(told[1], "bag")[0])
		return anInt()
	case "look":
		parts := w.arguments(told[0], "map", "imap")
		w.fit(told[1], parts[0])
		return parts[1]
	case "keys":
		return list(word("set"), w.arguments(told[0], "map")[0])
	}
	return w.in.base(told[0])
}

// put asks what is put into a seq, a map or an imap, and where.
func (w *walk) put(told []api.Form) {
	parts := w.arguments(told[0], "seq", "map", "imap")
	if len(parts) == 1 {
		w.fit(told[1], anInt())
		w.fit(told[2], parts[0])
		return
	}
	w.fit(told[1], parts[0])
	w.fit(told[2], parts[1])
}

// less asks what is taken out of a set, a bag or a map: of a map, keys.
func (w *walk) less(told []api.Form) {
	parts := w.arguments(told[0], "set", "bag", "map")
	if len(parts) == 2 {
		told = []api.Form{list(word("set"), parts[0]), told[1]}
	}
	w.same(told)
}
