package kind_test

import (
	"slices"
	"strings"
	"testing"

	"plinth/api"
	"plinth/kind"
	"plinth/reader"
)

// checked are types, with what Check says of them.
var checked = []struct {
	t    string
	want api.Errno
}{
	{"int", api.OK}, {"bool", api.OK},
	{"D", api.OK}, {"O", api.OK}, {"C", api.OK}, {"R", api.OK}, {"nat", api.OK}, {"a", api.OK}, {"+", api.OK},
	{"(L int)", api.OK}, {"(L (L a))", api.OK}, {"(P int (seq a))", api.OK}, {"(Q int int int bool)", api.OK}, {"(S int)", api.OK},
	{"(seq int)", api.OK}, {"(set int)", api.OK}, {"(bag int)", api.OK}, {"(map int a)", api.OK}, {"(imap int a)", api.OK},
	{"(fun () int)", api.OK}, {"(fun (int) int)", api.OK}, {"(fun (a int) int)", api.OK}, {"(fun ((fun (a) b)) (fun () a))", api.OK},
	{"(maybe C)", api.OK}, {"(maybe R)", api.OK},

	// No type's form.
	{"0", api.ErrArg}, {"-3", api.ErrArg}, {`""`, api.ErrArg}, {`"int"`, api.ErrArg},
	{"()", api.ErrArg}, {"(())", api.ErrArg}, {"((seq) int)", api.ErrArg}, {"(3 int)", api.ErrArg}, {`("seq" int)`, api.ErrArg},
	{"(seq)", api.ErrArg}, {"(seq int int)", api.ErrArg}, {"(set)", api.ErrArg}, {"(set int int)", api.ErrArg}, {"(bag)", api.ErrArg}, {"(bag int int)", api.ErrArg},
	{"(map)", api.ErrArg}, {"(map int)", api.ErrArg}, {"(map int int int)", api.ErrArg}, {"(imap int)", api.ErrArg}, {"(imap int int int)", api.ErrArg},
	{"(fun)", api.ErrArg}, {"(fun int)", api.ErrArg}, {"(fun ())", api.ErrArg}, {"(fun int int)", api.ErrArg}, {"(fun 1 int)", api.ErrArg}, {"(fun () int int)", api.ErrArg}, {"(fun (int) int int)", api.ErrArg},
	{"(bits)", api.ErrArg}, {"(bits 3 3)", api.ErrArg}, {"(bits int)", api.ErrArg}, {`(bits "3")`, api.ErrArg}, {"(bits (3))", api.ErrArg},
	{"(maybe)", api.ErrArg}, {"(maybe C C)", api.ErrArg}, {"(maybe 1)", api.ErrArg}, {"(maybe (seq int))", api.ErrArg}, {"(maybe (maybe C))", api.ErrArg},
	{"(D)", api.ErrArg}, {"(L)", api.ErrArg}, {"(nope)", api.ErrArg}, {"(int)", api.ErrArg}, {"(bool)", api.ErrArg},
	{"(seq 3)", api.ErrArg}, {"(seq ())", api.ErrArg}, {"(fun (3) int)", api.ErrArg}, {"(fun (()) int)", api.ErrArg}, {"(L 3)", api.ErrArg}, {"(map int 3)", api.ErrArg},

	// Names.
	{"nope", api.ErrName}, {"d", api.ErrName}, {"result", api.ErrName},
	{"bits", api.ErrName}, {"seq", api.ErrName}, {"set", api.ErrName}, {"bag", api.ErrName}, {"map", api.ErrName}, {"imap", api.ErrName}, {"fun", api.ErrName}, {"maybe", api.ErrName},
	{"(nope int)", api.ErrName}, {"(int int)", api.ErrName}, {"(bool int int)", api.ErrName},
	{"(seq nope)", api.ErrName}, {"(seq seq)", api.ErrName}, {"(maybe nope)", api.ErrName}, {"(maybe seq)", api.ErrName},
	{"(fun (fun) int)", api.ErrName}, {"(fun (seq int) int)", api.ErrName}, {"(fun (L int) int)", api.ErrType}, {"(fun (int nope) int)", api.ErrName}, {"(fun (int) nope)", api.ErrName},

	// How many arguments.
	{"L", api.ErrType}, {"P", api.ErrType}, {"S", api.ErrType}, {"(L int int)", api.ErrType}, {"(P int)", api.ErrType}, {"(Q int int int)", api.ErrType}, {"(Q int int int int int)", api.ErrType},
	{"(D int)", api.ErrType}, {"(O int)", api.ErrType}, {"(C int)", api.ErrType}, {"(R int)", api.ErrType}, {"(nat int)", api.ErrType}, {"(a int)", api.ErrType},
	{"(seq L)", api.ErrType}, {"(maybe L)", api.ErrType},

	// Bits.
	{"(bits 0)", api.ErrType}, {"(bits 1)", api.OK}, {"(bits 2)", api.OK}, {"(bits 15)", api.OK}, {"(bits 16)", api.OK}, {"(bits 17)", api.ErrType}, {"(bits -1)", api.ErrType}, {"(bits 1152921504606846976)", api.ErrType},

	// What must be comparable.
	{"(set bool)", api.OK}, {"(set (bits 3))", api.OK}, {"(set b)", api.OK}, {"(set C)", api.OK}, {"(set R)", api.OK}, {"(set (maybe C))", api.OK}, {"(set (seq (set int)))", api.OK}, {"(set (L nat))", api.OK}, {"(set (map int (bag int)))", api.OK},
	{"(bag b)", api.OK}, {"(map b a)", api.OK}, {"(imap b a)", api.OK}, {"(map int (fun () int))", api.OK}, {"(imap int (imap int O))", api.OK},
	{"(set a)", api.ErrType}, {"(bag a)", api.ErrType}, {"(map a int)", api.ErrType}, {"(imap a int)", api.ErrType},
	{"(set (fun () int))", api.ErrType}, {"(bag (imap int int))", api.ErrType}, {"(map O int)", api.ErrType}, {"(imap odd int)", api.ErrType}, {"(set Dn)", api.ErrType},
	{"(set (S int))", api.ErrType}, {"(set (L a))", api.ErrType}, {"(set (Ln int))", api.ErrType}, {"(set (P int (seq a)))", api.ErrType}, {"(set (seq a))", api.ErrType}, {"(set (map int a))", api.ErrType},
	{"(seq (set a))", api.ErrType}, {"(fun ((set a)) int)", api.ErrType}, {"(fun () (map a int))", api.ErrType}, {"(L (bag a))", api.ErrType},

	// Maybe of what is no class or trait.
	{"(maybe K)", api.OK}, {"(maybe T)", api.OK}, {"(maybe int)", api.ErrType}, {"(maybe bool)", api.ErrType}, {"(maybe D)", api.ErrType}, {"(maybe O)", api.ErrType}, {"(maybe nat)", api.ErrType}, {"(maybe a)", api.ErrType}, {"(maybe b)", api.ErrType},
}

// P3.1: what Check says of types.
func TestCheck(t *testing.T) {
	for _, c := range checked {
		if got := kind.Check(form(c.t), table()); got != c.want {
			t.Errorf("Check %s: error %d, want %d", c.t, got, c.want)
		}
	}
}

// P3.1: which error comes first, from the front and outside ahead of inside.
func TestCheckOrder(t *testing.T) {
	for _, c := range []struct {
		t    string
		want api.Errno
	}{
		{"(nope)", api.ErrArg},                // the shape, then the name
		{"(nope 3)", api.ErrName},             // the name, then what is inside
		{"(L 3 4)", api.ErrType},              // how many arguments, then these
		{"(L nope nope)", api.ErrType},        //
		{"(seq 3 nope)", api.ErrArg},          // the shape, then what is inside
		{"(map nope 3)", api.ErrName},         // from the front
		{"(map 3 nope)", api.ErrArg},          //
		{"(map L nope)", api.ErrType},         //
		{"(map (bits 17) nope)", api.ErrType}, //
		{"(P (P nope 3) 3)", api.ErrName},     //
		{"(P (seq 3) nope)", api.ErrArg},      //
		{"(fun (nope) 3)", api.ErrName},       // arguments, then the result
		{"(fun (int 3) nope)", api.ErrArg},    //
		{"(fun ((maybe int) nope) 3)", api.ErrType},
		{"(fun nope 3)", api.ErrArg},              // the shape of fun
		{"(set (fun () nope))", api.ErrName},      // parts, then comparable
		{"(set (fun () 3))", api.ErrArg},          //
		{"(map (fun () int) nope)", api.ErrName},  // all parts, then comparable
		{"(map a 3)", api.ErrArg},                 //
		{"(imap a (bits x))", api.ErrArg},         //
		{"(map (set a) nope)", api.ErrType},       // the part's own error
		{"(fun ((set a)) nope)", api.ErrType},     //
		{"(P (set a) (nope int))", api.ErrType},   //
		{"(P (nope int) (set a))", api.ErrName},   //
		{"(maybe nope)", api.ErrName},             // the name, then what it is of
		{"(map (maybe int) 3)", api.ErrType},      //
		{"(map (maybe C) (maybe 3))", api.ErrArg}, //
	} {
		if got := kind.Check(form(c.t), table()); got != c.want {
			t.Errorf("Check %s: error %d, want %d", c.t, got, c.want)
		}
	}
}

// P3.1: forms that are not valid are ErrArg, whatever else is wrong.
func TestCheckNotValid(t *testing.T) {
	for name, f := range hostile() {
		if err := kind.Check(f, table()); err != api.ErrArg {
			t.Errorf("Check of %s: error %d", name, err)
		}
		if err := kind.Check(list(word("nope"), word("nope"), f), table()); err != api.ErrArg {
			t.Errorf("Check of a list with %s: error %d", name, err)
		}
		if kind.Comparable(f, table()) || kind.Ready(f, table()) {
			t.Errorf("%s is comparable or ready", name)
		}
	}
	if err := kind.Check(nest(api.MaxDeep-1, "seq", word("int")), nil); err != api.OK {
		t.Errorf("the deepest type: error %d", err)
	}
	if err := kind.Check(nest(api.MaxDeep-1, "set", word("int")), nil); err != api.OK {
		t.Errorf("the deepest set: error %d", err)
	}
	if err := kind.Check(wide(api.MaxForm, word("int")), nil); err != api.OK {
		t.Errorf("the type with most parts: error %d", err)
	}
}

// rows are rows, and whether they may stand in a table.
var rows = []struct {
	row  kind.Row
	want bool
}{
	{kind.Row{Name: "x", Kind: data}, true},
	{kind.Row{Name: "x", Kind: data, N: 1}, true},
	{kind.Row{Name: "x", Kind: data, N: 4, Eq: true, New: true}, true},
	{kind.Row{Name: "x", Kind: data, N: 5}, false},
	{kind.Row{Name: "x", Kind: data, N: -1}, false},
	{kind.Row{Name: "x", Kind: codata, N: 4}, true},
	{kind.Row{Name: "x", Kind: codata, N: 5}, false},
	{kind.Row{Name: "x", Kind: codata, N: -1}, false},
	{kind.Row{Name: "x", Kind: class}, true},
	{kind.Row{Name: "x", Kind: class, Eq: true, New: true}, true},
	{kind.Row{Name: "x", Kind: class, N: 1}, false},
	{kind.Row{Name: "x", Kind: class, N: -1}, false},
	{kind.Row{Name: "x", Kind: trait}, true},
	{kind.Row{Name: "x", Kind: trait, N: 1}, false},
	{kind.Row{Name: "x", Kind: subset}, true},
	{kind.Row{Name: "x", Kind: subset, N: 1}, false},
	{kind.Row{Name: "x", Kind: variable}, true},
	{kind.Row{Name: "x", Kind: variable, N: 1}, false},
	{kind.Row{Name: "x", Kind: 0}, false},
	{kind.Row{Name: "x", Kind: 7}, false},
	{kind.Row{Name: "x", Kind: -1}, false},
	{kind.Row{}, false},
	{kind.Row{Name: "", Kind: data}, false},
	{kind.Row{Name: "12", Kind: data}, false},
	{kind.Row{Name: "-0", Kind: data}, false},
	{kind.Row{Name: "a b", Kind: data}, false},
	{kind.Row{Name: "(a)", Kind: data}, false},
	{kind.Row{Name: "\x7f", Kind: data}, false},
	{kind.Row{Name: strings.Repeat("x", api.MaxName), Kind: data}, true},
	{kind.Row{Name: strings.Repeat("x", api.MaxName+1), Kind: data}, false},
	{kind.Row{Name: "<=", Kind: data}, true},
	{kind.Row{Name: "null", Kind: variable}, true},
	{kind.Row{Name: "Int", Kind: variable}, true},
	{kind.Row{Name: "int", Kind: data}, false},
	{kind.Row{Name: "bool", Kind: data}, false},
	{kind.Row{Name: "bits", Kind: variable}, false},
	{kind.Row{Name: "seq", Kind: data, N: 1}, false},
	{kind.Row{Name: "set", Kind: data, N: 1}, false},
	{kind.Row{Name: "bag", Kind: data, N: 1}, false},
	{kind.Row{Name: "map", Kind: data, N: 2}, false},
	{kind.Row{Name: "imap", Kind: data, N: 2}, false},
	{kind.Row{Name: "fun", Kind: class}, false},
	{kind.Row{Name: "maybe", Kind: trait}, false},
}

// P3.1: a table that is not as tables must be is ErrArg, ahead of all else.
func TestCheckTable(t *testing.T) {
	for _, c := range rows {
		for _, whole := range [][]kind.Row{{c.row}, append(table(), c.row), slices.Insert(table(), 3, c.row)} {
			askTable(t, whole, c.want)
		}
	}
	for _, row := range table() {
		askTable(t, append(table(), row), false)
		askTable(t, append(table(), kind.Row{Name: row.Name, Kind: class}), false)
	}
	askTable(t, nil, true)
	askTable(t, table(), true)
}

// askTable asks types of a table, good or bad.
func askTable(t *testing.T, table []kind.Row, good bool) {
	t.Helper()
	for _, c := range []struct {
		t    string
		want api.Errno
	}{
		{"int", api.OK}, {"nope", api.ErrName}, {"(bits 17)", api.ErrType}, {"3", api.ErrArg},
	} {
		want := c.want
		if !good {
			want = api.ErrArg
		}
		if got := kind.Check(form(c.t), table); got != want {
			t.Errorf("Check %s, table %v: error %d, want %d", c.t, table, got, want)
		}
	}
	if kind.Comparable(form("int"), table) != good || kind.Ready(form("int"), table) != good {
		t.Errorf("int, table %v: comparable or ready", table)
	}
}

// P3.2: which types are comparable, and which are ready.
func TestComparableAndReady(t *testing.T) {
	for _, c := range []struct {
		t         string
		eq, ready bool
	}{
		{"int", true, true}, {"bool", true, true}, {"(bits 1)", true, true}, {"(bits 16)", true, true},
		{"(seq int)", true, true}, {"(seq a)", false, true}, {"(seq C)", true, true}, {"(seq (fun () int))", false, true},
		{"(set int)", true, true}, {"(set C)", true, true}, {"(bag e)", true, true},
		{"(map int int)", true, true}, {"(map int a)", false, true}, {"(map int (map int O))", false, true}, {"(map (map e e) e)", true, true},
		{"(imap int int)", false, true}, {"(imap int C)", false, true}, {"(imap int (fun () int))", false, true}, {"(seq (imap int int))", false, true},
		{"(fun () int)", false, false}, {"(fun (int) (seq int))", false, false},
		{"(maybe C)", true, true}, {"(maybe R)", true, true}, {"(maybe K)", true, true},
		{"C", true, false}, {"K", true, false}, {"R", true, false}, {"T", true, false},
		{"D", true, true}, {"Dn", false, true}, {"De", true, false}, {"+", true, true},
		{"(L int)", true, true}, {"(L a)", false, true}, {"(L e)", true, true}, {"(L C)", true, true}, {"(L (fun () int))", false, true}, {"(L (L (L c)))", false, true},
		{"(Ln int)", false, true}, {"(L (Ln int))", false, true}, {"(P int e)", true, false}, {"(P int a)", false, false}, {"(P a int)", false, false}, {"(Q int int int a)", false, true}, {"(Q int e D bool)", true, true},
		{"O", false, false}, {"(S int)", false, true}, {"(L O)", false, true},
		{"nat", true, true}, {"odd", false, false}, {"(seq odd)", false, true},
		{"a", false, false}, {"b", true, true}, {"c", false, true}, {"e", true, false},
		{"(seq (map int (L (bag (maybe C)))))", true, true},
	} {
		f := form(c.t)
		if err := kind.Check(f, table()); err != api.OK {
			t.Errorf("Check %s: error %d", c.t, err)
		}
		if got := kind.Comparable(f, table()); got != c.eq {
			t.Errorf("Comparable %s: %v", c.t, got)
		}
		if got := kind.Ready(f, table()); got != c.ready {
			t.Errorf("Ready %s: %v", c.t, got)
		}
	}
	for _, c := range checked {
		if f := form(c.t); c.want != api.OK && (kind.Comparable(f, table()) || kind.Ready(f, table())) {
			t.Errorf("%s is not let, but comparable or ready", reader.Write(f))
		}
	}
}
