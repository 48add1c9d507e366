package typing_test

import (
	"slices"
	"strconv"
	"strings"

	"plinth/api"
	"plinth/reader"
	"plinth/typing"
)

// dice gives numbers that look like random ones, the same in each run.
type dice uint64

func (d *dice) below(n int) int {
	*d = *d*6364136223846793005 + 1442695040888963407
	return int(uint64(*d)>>33) % n
}

// one is one of some texts.
func (d *dice) one(of ...string) string {
	return of[d.below(len(of))]
}

// A maker makes expressions of the world, and knows their types. In its texts a
// sign stands where something wrong is asked, as in TestOrder, and ($ T E) where
// a value flows into a subset type T, as in TestMarks.
type maker struct {
	dice
	odds  int          // one of so many things is wrong; 0: nothing is
	sight []typing.Var // of several of a name the last one counts
}

func newMaker(seed dice) *maker {
	return &maker{dice: seed, sight: varsOf(locals)}
}

// isWrong tells whether the next thing is to be wrong.
func (m *maker) isWrong() bool {
	return m.odds > 0 && m.below(m.odds) == 0
}

// replaced is a type with words replaced.
func replaced(t api.Form, by func(word string) string) api.Form {
	if t.Kind == api.Word {
		return form(by(t.Text))
	}
	kids := slices.Clone(t.Kids)
	for i, kid := range kids {
		kids[i] = replaced(kid, by)
	}
	t.Kids = kids
	return t
}

// base is the base of a type, written out by what the world declares.
func base(t api.Form) api.Form {
	subs := map[string]string{"nat": "int", "small": "int", "nats": "(seq int)", "mc": "(maybe C)", "oc": "C", "le": "(L int)"}
	return replaced(t, func(word string) string {
		if to, ok := subs[word]; ok {
			return to
		}
		return word
	})
}

// variant is a type that has the base that a type is.
func (m *maker) variant(t api.Form) api.Form {
	whole := map[string][]string{"(seq int)": {"nats"}, "(maybe C)": {"mc"}, "(L int)": {"le"}, "C": {"oc"}, "int": {"nat", "small"}}
	if other := whole[reader.Write(t)]; len(other) > 0 && m.below(2) == 0 {
		return form(m.one(other...))
	}
	if head := reader.Head(t); t.Kind == api.Word || head == "maybe" || head == "bits" {
		return t
	}
	if reader.Head(t) == "fun" {
		return list(t.Kids[0], list(m.variants(t.Kids[1].Kids)...), m.variant(t.Kids[2]))
	}
	return list(append(slices.Clone(t.Kids[:1]), m.variants(t.Kids[1:])...)...)
}

// variants are such types, one by one.
func (m *maker) variants(l []api.Form) []api.Form {
	var types []api.Form
	for _, t := range l {
		types = append(types, m.variant(t))
	}
	return types
}

// any is a base, of which values can be compared.
func (m *maker) any(deep int) string {
	if deep == 0 || m.below(2) == 0 {
		return m.one("int", "int", "bool", "E", "C", "T", "(maybe C)", "(bits 3)")
	}
	t := func() string { return m.any(deep - 1) }
	switch m.below(6) {
	case 0:
		return "(" + m.one("seq", "set", "bag") + " " + t() + ")"
	case 1:
		return "(map " + t() + " " + t() + ")"
	case 2:
		return "(P " + t() + " " + t() + ")"
	}
	return "(L " + t() + ")"
}

// whole is a base of any kind.
func (m *maker) whole() string {
	switch m.below(8) {
	case 0:
		return "(fun (" + m.any(1) + ") " + m.any(1) + ")"
	case 1:
		return "(imap " + m.any(1) + " " + m.any(1) + ")"
	case 2:
		return "(fun () " + m.any(2) + ")"
	}
	return m.any(2)
}

// sights are the variables in sight whose types have a base.
func (m *maker) sights(want string) []typing.Var {
	var l []typing.Var
	hidden := map[string]bool{}
	for _, v := range slices.Backward(m.sight) {
		if !hidden[v.Name] && reader.Write(base(v.Type)) == want {
			l = append(l, v)
		}
		hidden[v.Name] = true
	}
	return l
}

// inside makes a text in which variables are in sight.
func (m *maker) inside(make func() (string, api.Form), vars ...typing.Var) (string, api.Form) {
	outer := m.sight
	m.sight = append(slices.Clone(outer), vars...)
	s, told := make()
	m.sight = outer
	return s, told
}

// operands are expressions of some bases. One of them may be of another base, and
// then a sign is to stand where they are asked.
func (m *maker) operands(deep int, wants ...string) (s, sign string, told []api.Form) {
	wants = slices.Clone(wants)
	if at := m.below(len(wants)); m.isWrong() {
		other := m.one("int", "bool", "E")
		if slices.Contains(wants, other) {
			other = "(fun () E)"
		}
		wants[at], sign = other, "%"
	}
	s, told = m.loose(deep, wants...)
	return s, sign, told
}

// loose are expressions of some bases, where others would not be wrong.
func (m *maker) loose(deep int, wants ...string) (string, []api.Form) {
	var l []string
	var told []api.Form
	for _, want := range wants {
		s, t := m.expr(want, deep-1)
		l, told = append(l, s), append(told, t)
	}
	return strings.Join(l, " "), told
}

// looseOp is an operation on such operands.
func (m *maker) looseOp(head string, deep int, wants ...string) string {
	s, _ := m.loose(deep, wants...)
	return "(" + head + " " + s + ")"
}

// op is an operation on operands of some bases.
func (m *maker) op(head string, deep int, wants ...string) string {
	s, sign, _ := m.operands(deep, wants...)
	return "(" + strings.TrimSpace(head+" "+s) + ")" + sign
}

// oneOf is one of some operations: a head and the bases of operands each.
func (m *maker) oneOf(deep int, ops ...[]string) string {
	o := ops[m.below(len(ops))]
	return m.op(o[0], deep, o[1:]...)
}

// flow is an expression that flows to where a type is asked.
func (m *maker) flow(asked api.Form, deep int) (s, sign string) {
	s, sign, told := m.operands(deep, reader.Write(base(asked)))
	if sign == "" && !reader.Equal(base(asked), asked) && !reader.Equal(told[0], asked) {
		s = "($ " + reader.Write(asked) + " " + s + ")"
	}
	return s, sign
}

// flows are arguments, behind a head.
func (m *maker) flows(head string, deep int, asked ...string) string {
	sign := ""
	for _, t := range asked {
		s, wrong := m.flow(form(t), deep)
		head, sign = head+" "+s, sign+wrong
	}
	return "(" + head + ")" + sign
}

// expr is an expression whose type has a base, with its type.
func (m *maker) expr(want string, deep int) (string, api.Form) {
	t := form(want)
	if m.isWrong() {
		switch m.below(4) {
		case 0:
			return "(bnum (bits^ 3 8))", t
		case 1:
			return "@nowhere", t
		case 2:
			return "(call @m 1 2)", t
		}
		return "(is Zero 1)@", t
	}
	if deep <= 0 {
		return m.leaf(want)
	}
	if m.below(2) == 0 {
		if s, told := m.special(t, deep); s != "" {
			return s, told
		}
	}
	return m.general(want, deep)
}

// leaf is an expression without parts that are chosen.
func (m *maker) leaf(want string) (string, api.Form) {
	if l := m.sights(want); len(l) > 0 && m.below(3) > 0 {
		v := l[m.below(len(l))]
		return v.Name, v.Type
	}
	t := form(want)
	part := func(i int) string {
		s, _ := m.leaf(reader.Write(t.Kids[i]))
		return s
	}
	switch reader.Head(t) {
	case "seq", "set", "bag", "map":
		return "(empty " + want + ")", t
	case "imap":
		return "(imap " + part(2) + " " + reader.Write(t.Kids[1]) + ")", t
	case "L":
		return "(make Nil (of " + reader.Write(t.Kids[1]) + "))", t
	case "P":
		return "(make Pair " + part(1) + " " + part(2) + ")", t
	case "fun":
		s := ""
		for i, param := range t.Kids[1].Kids {
			s += "(y" + strconv.Itoa(i) + " " + reader.Write(param) + ")"
		}
		body, told := m.leaf(reader.Write(t.Kids[2]))
		return "(fn (" + s + ") " + body + ")", list(t.Kids[0], t.Kids[1], told)
	}
	switch want {
	case "int":
		return strconv.Itoa(m.below(9)), t
	case "bool":
		return m.one("true", "false"), t
	case "E":
		return "(make One)", t
	case "C":
		return "own", t
	case "T":
		return "(at (empty (seq T)) 0)", t
	case "(maybe C)":
		return "(get o own)", t
	case "(bits 3)":
		return "(bits 3 " + strconv.Itoa(m.below(8)) + ")", t
	}
	panic("no leaf of " + want)
}

// general is an expression that may be of any base.
func (m *maker) general(want string, deep int) (string, api.Form) {
	t, x := form(want), m.one("x", "y", "i", "b", "c", "C", "e")
	other := m.whole()
	e := func() (string, api.Form) { return m.expr(want, deep-1) }
	switch m.below(16) {
	case 0:
		a, told := m.expr(other, deep-1)
		s, result := m.inside(e, typing.Var{Name: x, Type: told})
		return "(let (" + x + " " + a + ") " + s + ")", result
	case 1:
		s, sign, told := m.operands(deep, "bool", want, want)
		return "(if " + s + ")" + sign, told[min(1, len(told)-1)]
	case 2:
		bounds, sign, _ := m.operands(deep, "int", "int")
		condition, sign2, told := "", "", t
		s, _ := m.inside(func() (string, api.Form) {
			condition, sign2, _ = m.operands(deep, "bool")
			var s string
			s, told = e()
			return s, told
		}, typing.Var{Name: x, Type: word("int")})
		return "(pick (" + x + " " + bounds + ")" + sign + " " + condition + sign2 + " " + s + ")", told
	case 3, 4:
		return m.match(want, deep)
	case 5:
		return m.looseOp("call id", deep, want), t
	case 6:
		told := m.variant(t)
		return m.flows("call id (of "+reader.Write(told)+")", deep, reader.Write(told)), told
	case 7:
		return m.op("call both", deep, want, want), t
	case 8:
		return m.op("at", deep, "(seq "+want+")", "int"), t
	case 9:
		key := m.any(1)
		return m.op("look", deep, m.one("(map ", "(imap ")+key+" "+want+")", key), t
	case 10:
		return m.op("get head", deep, "(L "+want+")"), t
	case 11:
		return m.op(m.one("get fst", "get snd"), deep, "(P "+want+" "+want+")"), t
	case 12:
		key := m.any(1)
		return m.op("app", deep, "(fun ("+key+") "+want+")", key), t
	case 13:
		s, _ := e()
		return m.one("(old ", "(fuel 3 up ", "(fuel 1 pr ") + s + ")", t
	case 14:
		return m.op("app", deep, "(fun () "+want+")"), t
	}
	return m.leaf(want)
}

// match is one whose type has a base.
func (m *maker) match(want string, deep int) (string, api.Form) {
	e := func() (string, api.Form) { return m.expr(want, deep-1) }
	a, b := m.any(1), m.any(1)
	data := m.one("(L "+a+")", "(P "+a+" "+b+")", "E", "(S int)")
	arms := map[string][]string{"L": {"Nil", "Cons " + a + " (L " + a + ")"}, "P": {"Flip " + b + " " + a, "Pair " + a + " " + b, "Solo " + a}, "E": {"One", "Two nat E"}, "S": {"More int (S int)"}}[data[strings.Index(data, "(")+1:][:1]]
	of := "si"
	if data != "(S int)" {
		of, _ = m.expr(data, deep-1)
	}
	s, result := "(match "+of, form("nowhere")
	for i, arm := range arms[m.below(len(arms)):] {
		parts := forms(arm)
		names := []string{m.one("x", "c", "i"), m.one("y", "b", "e")}[:len(parts)-1]
		var vars []typing.Var
		for at, name := range names {
			vars = append(vars, typing.Var{Name: name, Type: parts[at+1]})
		}
		sign := ""
		if m.isWrong() {
			names, sign = append(names, "z"), "%"
		}
		text, told := m.inside(e, vars...)
		s += " (" + parts[0].Text + " (" + strings.Join(names, " ") + ")" + sign + " " + text + ")"
		if i == 0 {
			result = told
		}
	}
	return s + ")", result
}

// special is an expression of a base for which there are operations of its own.
// There may be none.
func (m *maker) special(t api.Form, deep int) (string, api.Form) {
	want, of := reader.Write(t), func(i int) string { return reader.Write(t.Kids[i]) }
	switch reader.Head(t) {
	case "seq":
		switch m.below(8) {
		case 0:
			return "(empty " + reader.Write(m.variant(t)) + ")", t
		case 1:
			return m.looseOp("seq", deep, of(1)), t
		}
		return m.oneOf(deep, []string{"seq", of(1), of(1)}, []string{"cat", want, want}, []string{"cut", want, "int", "int"}, []string{"put", want, "int", of(1)}), t
	case "set":
		return m.oneOf(deep, []string{"set", of(1), of(1), of(1)}, []string{"join", want, want}, []string{"meet", want, want}, []string{"less", want, want}, []string{"keys", "(map " + of(1) + " " + m.any(1) + ")"}), t
	case "bag":
		return m.oneOf(deep, []string{"bag", of(1), of(1)}, []string{"join", want, want}, []string{"meet", want, want}, []string{"less", want, want}), t
	case "map":
		if m.below(2) == 0 {
			return "(map " + m.looseOp("", deep, of(1), of(2)) + ")", t
		}
		return m.oneOf(deep, []string{"join", want, want}, []string{"less", want, "(set " + of(1) + ")"}, []string{"put", want, of(1), of(2)}), t
	case "imap":
		return m.op("put", deep, want, of(1), of(2)), t
	case "L":
		if arg := reader.Write(m.variant(t.Kids[1])); m.below(3) == 0 {
			return m.flows("make Cons (of "+arg+")", deep, arg, "(L "+arg+")"), t
		}
		return m.oneOf(deep, []string{"make Cons", of(1), want}, []string{"get tail", want}), t
	case "P":
		switch m.below(5) {
		case 0, 1:
			return m.looseOp(m.one("make Pair", "call two"), deep, of(1), of(2)), t
		case 2:
			return m.looseOp("make Flip", deep, of(2), of(1)), t
		}
		return m.oneOf(deep, []string{"call swap", "(P " + of(2) + " " + of(1) + ")"}, []string{"make Solo (of " + of(1) + " " + of(2) + ")", of(1)}), t
	case "fun":
		return m.fn(t, deep)
	case "bits":
		return m.op(m.one("band", "bor", "bxor", "badd"), deep, want, want), t
	}
	switch want {
	case "int":
		return m.number(deep)
	case "bool":
		return m.truth(deep), t
	case "E":
		if m.below(2) == 0 {
			return m.flows("make Two", deep, "nat", "E"), t
		}
		return m.op("get rest", deep, "E"), t
	case "(maybe C)":
		return m.one("(get o own)", "(if (= 1 2) null (get o own))", "(if (= 1 2) own (get o own))", "(at (seq null (get o own) own) 0)"), t
	case "T":
		return m.one("(at (seq own (at (empty (seq T)) 0)) 0)", "(if true (at (empty (seq T)) 0) own)", "(if true own (at (empty (seq T)) 0))"), t
	}
	return "", t
}

// fn is one of a base, with its type.
func (m *maker) fn(t api.Form, deep int) (string, api.Form) {
	params := m.variants(t.Kids[1].Kids)
	var pairs []api.Form
	var vars []typing.Var
	for i, param := range params {
		name := []string{"x", "y", "i"}[i]
		pairs, vars = append(pairs, list(word(name), param)), append(vars, typing.Var{Name: name, Type: param})
	}
	s, told := m.inside(func() (string, api.Form) { return m.expr(reader.Write(t.Kids[2]), deep-1) }, vars...)
	return "(fn " + reader.Write(list(pairs...)) + " " + s + ")", list(word("fun"), list(params...), told)
}

// number is a number.
func (m *maker) number(deep int) (string, api.Form) {
	t := m.any(1)
	switch m.below(8) {
	case 0:
		return m.op("get num", deep, "E"), word("nat")
	case 1:
		return m.op("get x", deep, "C"), word("nat")
	case 2:
		return m.flows("call up", deep, "nat", "T"), word("nat")
	case 3:
		return m.op("get cf", deep, m.one("C", "(maybe C)")), word("small")
	}
	return m.oneOf(deep, []string{m.one("+", "-", "*", "div", "mod"), "int", "int"}, []string{"neg", "int"}, []string{"bnum", "(bits 3)"}, []string{"len", "(seq " + t + ")"}, []string{"card", m.one("(set ", "(bag ") + t + ")"}, []string{"count", t, "(bag " + t + ")"}), word("int")
}

// truth is a truth.
func (m *maker) truth(deep int) string {
	t := m.any(1)
	switch m.below(9) {
	case 0:
		return m.op(m.one("not", "and", "or"), deep, "bool")
	case 1:
		return m.op(m.one("and", "or", "=>", "iff"), deep, "bool", "bool")
	case 2:
		return m.op(m.one("<", "<="), deep, "int", "int")
	case 3:
		return m.ranged(t, deep)
	case 4:
		return m.quantified(deep)
	case 5:
		return m.flows("call pr", deep, "nat")
	case 6:
		return m.flows("prefix lst", deep, "int", "nat")
	}
	return m.oneOf(deep, []string{"=", t, t}, []string{"in", t, m.one("(set ", "(bag ") + t + ")"}, []string{"in", t, "(map " + t + " int)"}, []string{"get cp", "C"}, []string{"is Nil", "(L " + t + ")"}, []string{"is Two", "E"}, []string{"fresh", m.one("C", "T", "(maybe C)")})
}

// ranged is a truth about all or some of a range or set.
func (m *maker) ranged(t string, deep int) string {
	x := m.one("x", "i", "c")
	head, s, sign := m.one("all", "some"), "", ""
	if m.below(2) == 0 {
		t = "int"
		s, sign, _ = m.operands(deep, "int", "int")
	} else {
		head = m.one("every", "any")
		s, sign, _ = m.operands(deep, "(set "+t+")")
	}
	wrong := ""
	inner, _ := m.inside(func() (string, api.Form) {
		var s string
		s, wrong, _ = m.operands(deep, "bool")
		return s, word("bool")
	}, typing.Var{Name: x, Type: form(t)})
	return "(" + head + " (" + x + " " + s + ")" + sign + " " + inner + ")" + wrong
}

// quantified is a truth about all values of types.
func (m *maker) quantified(deep int) string {
	x, y := typing.Var{Name: "x", Type: m.variant(form(m.whole()))}, typing.Var{Name: "b", Type: m.variant(form(m.any(1)))}
	wrong := ""
	s, _ := m.inside(func() (string, api.Form) {
		trigger, _ := m.expr(m.whole(), deep-1)
		s, sign, _ := m.operands(deep, "bool")
		wrong = sign
		return "(trigger " + trigger + " x) " + s, word("bool")
	}, x, y)
	return "(" + m.one("forall", "exists") + " ((x " + reader.Write(x.Type) + ") (b " + reader.Write(y.Type) + ")) " + s + ")" + wrong
}
