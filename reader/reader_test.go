package reader_test

import (
	"slices"
	"strings"
	"testing"

	"plinth/api"
	"plinth/reader"
)

// P1.2: what is valid, and what is not.
func TestValid(t *testing.T) {
	a := word("a")
	for name, c := range map[string]struct {
		f    api.Form
		want bool
	}{
		"number":             {num(0), true},
		"greatest number":    {num(api.MaxInt), true},
		"least number":       {num(-api.MaxInt), true},
		"number too great":   {num(api.MaxInt + 1), false},
		"number too small":   {num(-api.MaxInt - 1), false},
		"number and text":    {api.Form{Kind: api.Num, N: 1, Text: "1"}, false},
		"number and Kids":    {api.Form{Kind: api.Num, N: 1, Kids: []api.Form{a}}, false},
		"number, no Kids":    {api.Form{Kind: api.Num, N: 1, Kids: []api.Form{}}, true},
		"word":               {a, true},
		"longest word":       {word(longWord[1:]), true},
		"word too long":      {word(longWord), false},
		"word and N":         {api.Form{Kind: api.Word, Text: "a", N: 1}, false},
		"word and Kids":      {api.Form{Kind: api.Word, Text: "a", Kids: []api.Form{a}}, false},
		"empty word":         {word(""), false},
		"word -":             {word("-"), true},
		"word --1":           {word("--1"), true},
		"word 1a":            {word("1a"), true},
		"word of a digit":    {word("0"), false},
		"word of digits":     {word("007"), false},
		"word - and digits":  {word("-12"), false},
		"word -0":            {word("-0"), false},
		"word with blank":    {word("a b"), false},
		"word with line":     {word("a\n"), false},
		"word with (":        {word("(a"), false},
		"word with )":        {word("a)"), false},
		"word with quote":    {word("a\"b"), false},
		"word with ;":        {word("a;"), false},
		"word with 127":      {word("a\x7f"), false},
		"word with 128":      {word("a\x80"), false},
		"word with !":        {word("!"), true},
		"word with ~":        {word("~"), true},
		"text":               {text("a b"), true},
		"empty text":         {text(""), true},
		"text of 2000":       {text(strings.Repeat("\n", 2000)), true},
		"text of 2001":       {text(strings.Repeat("a", 2001)), false},
		"text with 9":        {text("\t"), false},
		"text with 31":       {text("\x1f"), false},
		"text with 127":      {text("\x7f"), false},
		"text with 255":      {text("\xff"), false},
		"text with all else": {text(" !\"\\()~;\n"), true},
		"text and N":         {api.Form{Kind: api.Text, Text: "a", N: 1}, false},
		"text and Kids":      {api.Form{Kind: api.Text, Text: "a", Kids: []api.Form{a}}, false},
		"empty list":         {list(), true},
		"list":               {list(a, num(1), list()), true},
		"list and N":         {api.Form{Kind: api.List, N: 1}, false},
		"list and text":      {api.Form{Kind: api.List, Text: "a"}, false},
		"invalid Kid":        {list(a, list(word(""))), false},
		"Kid of no kind":     {list(a, other(4)), false},
		"kind 4":             {other(4), false},
		"kind -1":            {other(-1), false},
		"zero value":         {api.Form{}, true},
		"most parts":         {repeat(api.MaxForm-1, a), true},
		"too many parts":     {repeat(api.MaxForm, a), false},
		"many parts within":  {list(repeat(9999, a), repeat(9998, a)), true},
		"one more within":    {list(repeat(9999, a), repeat(9999, a)), false},
		"deepest":            {nest(api.MaxDeep-1, a), true},
		"too deep":           {nest(api.MaxDeep, a), false},
		"deepest, no Kids":   {nest(api.MaxDeep-1, list()), true},
		"too deep, no Kids":  {nest(api.MaxDeep, list()), false},
		"very deep":          {nest(60000, a), false},
	} {
		if got := reader.Valid(c.f); got != c.want {
			t.Errorf("Valid of %s: %t", name, got)
		}
		if (reader.Write(c.f) != "") != c.want {
			t.Errorf("Write of %s: %q", name, brief(reader.Write(c.f)))
		}
	}
}

// P1.2: forms as text, a form that is not valid as the empty text.
func TestWrite(t *testing.T) {
	for _, c := range []struct {
		f    api.Form
		want string
	}{
		{num(0), "0"}, {num(-7), "-7"}, {num(api.MaxInt), "1152921504606846976"}, {num(-api.MaxInt), "-1152921504606846976"},
		{word("set"), "set"}, {word("-"), "-"}, {word("\\"), "\\"},
		{text(""), `""`}, {text("a \"b\" \\n\n;"), `"a \"b\" \\n\n;"`},
		{list(), "()"}, {list(list(), list()), "(() ())"},
		{list(word("f"), num(1), text("a\nb"), list(word("g"))), `(f 1 "a\nb" (g))`},
		{list(text("a"), text("b"), list(word("x")), num(1)), `("a" "b" (x) 1)`},
		{list(word("a"), word("1")), ""}, {other(9), ""},
	} {
		if s := reader.Write(c.f); s != c.want {
			t.Errorf("Write: %q, want %q", s, c.want)
		}
	}
	if s := reader.Write(text(strings.Repeat("\"", 2000))); len(s) != 4002 {
		t.Errorf("Write of 2000 quotes: %d bytes", len(s))
	}
}

// P1.2: each form and a line feed, an empty line for one that is not valid.
func TestWriteAll(t *testing.T) {
	if s := reader.WriteAll([]api.Form{word("a"), word("1"), list(word("b"), num(2)), other(-3), text("\n")}); s != "a\n\n(b 2)\n\n\"\\n\"\n" {
		t.Errorf("WriteAll: %q", s)
	}
	if s := reader.WriteAll(nil); s != "" {
		t.Errorf("WriteAll of none: %q", s)
	}
}

// P1.2: parts and depth of any forms.
func TestSizeAndDepth(t *testing.T) {
	a := word("a")
	for _, c := range []struct {
		f           api.Form
		size, depth int
	}{
		{num(3), 1, 1}, {a, 1, 1}, {text(""), 1, 1}, {list(), 1, 1}, {list(a), 2, 2}, {list(list()), 2, 2},
		{list(word("f"), num(1), text("a\nb"), list(word("g"))), 6, 3},
		{list(word("if"), a, list(word("b"), num(1)), text("x")), 7, 3},
		{list(list(list(a)), a), 5, 4},
		{api.Form{Kind: api.Word, Text: "a", Kids: []api.Form{a, list(a)}}, 1, 1},
		{api.Form{Kind: 7, Kids: []api.Form{a}}, 1, 1}, {list(other(-1), word("")), 3, 2},
		{api.Form{Kind: api.List, N: 4, Text: "x", Kids: []api.Form{a}}, 2, 2},
		{repeat(3*api.MaxForm, a), 3*api.MaxForm + 1, 2}, {nest(60000, a), 60001, 60001},
	} {
		if n := reader.Size(c.f); n != c.size {
			t.Errorf("Size of %q: %d, want %d", brief(reader.Write(c.f)), n, c.size)
		}
		if n := reader.Depth(c.f); n != c.depth {
			t.Errorf("Depth of %q: %d, want %d", brief(reader.Write(c.f)), n, c.depth)
		}
	}
}

// P1.2: 7 at first; then, byte by byte of the text, (31 times it, plus b) modulo 1000003.
func TestSum(t *testing.T) {
	for _, c := range []struct {
		f    api.Form
		want int
	}{
		{word("a"), 7*31 + 97},
		{word("ab"), (7*31+97)*31 + 98},
		{num(-1), (7*31+'-')*31 + '1'},
		{list(), (7*31+'(')*31 + ')'},
		{text("\n"), 569376},
		{list(word("f"), num(1), text("a\nb"), list(word("g"))), 117765},
		{word(""), 7}, {word("1"), 7}, {other(4), 7}, {repeat(api.MaxForm, word("a")), 7},
	} {
		if n := reader.Sum(c.f); n != c.want {
			t.Errorf("Sum of %q: %d, want %d", brief(reader.Write(c.f)), n, c.want)
		}
	}
}

// P1.2: a head is the text of a list's first Kid, if that is a word.
func TestHead(t *testing.T) {
	for _, c := range []struct {
		f    api.Form
		want string
	}{
		{list(word("f"), num(1)), "f"}, {list(word("f")), "f"}, {list(word("not a word")), "not a word"},
		{list(), ""}, {list(num(1), word("f")), ""}, {list(text("f")), ""}, {list(list(word("f"))), ""},
		{word("f"), ""}, {num(1), ""}, {text("f"), ""}, {other(5), ""},
		{api.Form{Kind: api.Word, Text: "f", Kids: []api.Form{word("g")}}, ""},
		{api.Form{Kind: 4, Kids: []api.Form{word("g")}}, ""},
		{list(api.Form{Kind: 4, Text: "f"}), ""}, {list(api.Form{Kind: api.Num, Text: "f"}), ""},
		{api.Form{Kind: api.List, N: 1, Text: "t", Kids: []api.Form{word("g")}}, "g"},
	} {
		if s := reader.Head(c.f); s != c.want {
			t.Errorf("Head of %v: %q, want %q", c.f, s, c.want)
		}
	}
}

// P1.2: the part at a path, ErrNone where there is none.
func TestAt(t *testing.T) {
	f := list(word("a"), list(word("b"), num(1), list()), text("c"), api.Form{Kind: api.Word, Text: "d", Kids: []api.Form{num(9)}}, api.Form{Kind: 8, Kids: []api.Form{num(9)}})
	for _, c := range []struct {
		path []int
		want api.Form
	}{
		{nil, f}, {[]int{}, f}, {[]int{0}, word("a")}, {[]int{1}, f.Kids[1]}, {[]int{1, 1}, num(1)}, {[]int{1, 2}, list()}, {[]int{2}, text("c")}, {[]int{4}, f.Kids[4]},
	} {
		part, err := reader.At(f, c.path)
		if err != api.OK || !identical(part, c.want) {
			t.Errorf("At %v: %v, error %d", c.path, part, err)
		}
	}
	for _, path := range [][]int{{5}, {-1}, {1 << 62}, {0, 0}, {1, 3}, {1, -1}, {1, 1, 0}, {1, 2, 0}, {2, 0}, {3, 0}, {4, 0}} {
		part, err := reader.At(f, path)
		if err != api.ErrNone || !identical(part, api.Form{}) {
			t.Errorf("At %v: %v, error %d", path, part, err)
		}
		// Put asks the same, ahead of whether the result is valid.
		whole, err := reader.Put(f, path, word(""))
		if err != api.ErrNone || !identical(whole, api.Form{}) {
			t.Errorf("Put at %v: %v, error %d", path, whole, err)
		}
	}
	if _, err := reader.At(word("a"), []int{0}); err != api.ErrNone {
		t.Error("At of a word")
	}
}

// P1.2: the form with another part, ErrLimit if that is not valid.
func TestPut(t *testing.T) {
	f := list(word("a"), list(word("b"), num(1)), word("c"))
	for _, c := range []struct {
		path []int
		g    api.Form
		want string
	}{
		{nil, num(5), "5"}, {[]int{0}, num(5), "(5 (b 1) c)"}, {[]int{1}, list(), "(a () c)"}, {[]int{1, 1}, list(word("z")), "(a (b (z)) c)"}, {[]int{2}, text("\n"), `(a (b 1) "\n")`},
	} {
		whole, err := reader.Put(f, c.path, c.g)
		if err != api.OK || reader.Write(whole) != c.want {
			t.Errorf("Put at %v: %v, error %d", c.path, whole, err)
		}
		if reader.Write(f) != "(a (b 1) c)" {
			t.Fatalf("Put at %v changed its form: %v", c.path, f)
		}
	}
}

func TestPutLimit(t *testing.T) {
	a := word("a")
	broken := list(a, word("12"))
	for name, c := range map[string]struct {
		f    api.Form
		path []int
		g    api.Form
		want api.Errno
	}{
		"a word of digits":      {list(a), nil, word("12"), api.ErrLimit},
		"no kind":               {list(a), []int{0}, other(4), api.ErrLimit},
		"as deep as may be":     {nest(50, a), make([]int, 50), nest(49, a), api.OK},
		"too deep":              {nest(50, a), make([]int, 50), nest(50, a), api.ErrLimit},
		"as many as may be":     {list(a, repeat(9999, a)), []int{0}, repeat(9998, a), api.OK},
		"too many":              {list(a, repeat(9999, a)), []int{0}, repeat(9999, a), api.ErrLimit},
		"a broken part left":    {broken, []int{0}, a, api.ErrLimit},
		"a broken part mended":  {broken, []int{1}, a, api.OK},
		"a broken list left":    {api.Form{Kind: api.List, N: 1, Kids: []api.Form{a}}, []int{0}, a, api.ErrLimit},
		"all put over":          {broken, nil, a, api.OK},
		"a path that is deeper": {nest(70000, a), make([]int, 70000), a, api.ErrLimit},
	} {
		whole, err := reader.Put(c.f, c.path, c.g)
		if err != c.want {
			t.Errorf("Put, %s: error %d", name, err)
		}
		if err != api.OK && !identical(whole, api.Form{}) {
			t.Errorf("Put, %s: a form beside an error", name)
		}
	}
}

// ordered are forms, each less than all behind it, but for those of a row:
// these are equal.
func ordered() [][]api.Form {
	a := word("a")
	return [][]api.Form{
		{other(-2), {Kind: -2, N: 5, Text: "x", Kids: []api.Form{a}}},
		{other(-1)},
		{num(-api.MaxInt - 1)},
		{num(-7)}, {num(0), {Text: "x", Kids: []api.Form{a}}}, {num(3)}, {num(20)},
		{word("")}, {word("-"), {Kind: api.Word, Text: "-", N: 4, Kids: []api.Form{a}}}, {word("B")}, {a}, {word("aa")}, {word("b")}, {word("\xff")},
		{text("")}, {text("\n")}, {text("a"), {Kind: api.Text, Text: "a", N: -4}}, {text("ab")},
		{list(), {Kind: api.List, N: 3, Text: "q"}, {Kind: api.List, Kids: []api.Form{}}},
		{list(num(9))}, {list(num(9), num(1))}, {list(a), list(api.Form{Kind: api.Word, Text: "a", N: 1})}, {list(a, num(1))}, {list(a, a)}, {list(a, a, num(0))}, {list(a, list())}, {list(word("b"))}, {list(list())}, {list(list(a))},
		{other(4), {Kind: 4, Text: "y"}}, {other(1 << 40)},
	}
}

// P1.2, P1.3: Kinds first, then what the Kind has; Equal is Compare 0.
func TestCompare(t *testing.T) {
	rows := ordered()
	for i, row := range rows {
		for j, col := range rows {
			want := 0
			if i < j {
				want = -1
			} else if i > j {
				want = 1
			}
			for _, a := range row {
				for _, b := range col {
					if c := reader.Compare(a, b); c != want {
						t.Errorf("Compare %v %v: %d, want %d", a, b, c, want)
					}
					if reader.Equal(a, b) != (want == 0) {
						t.Errorf("Equal %v %v", a, b)
					}
				}
			}
		}
	}
}

// P1.2: ascending, each once, of equal ones the first.
func TestSort(t *testing.T) {
	var l, want []api.Form
	for _, row := range ordered() {
		want = append(want, row[0])
	}
	// Rows from behind, each from the front, twice: the first of a row stays.
	for range 2 {
		for _, row := range slices.Backward(ordered()) {
			l = append(l, row...)
		}
	}
	before := clone(list(l...)).Kids
	sorted := reader.Sort(l)
	if !identicalAll(sorted, want) {
		t.Errorf("Sort: %v", sorted)
	}
	if !identicalAll(l, before) {
		t.Error("Sort changed its list")
	}
	sorted[0] = word("changed")
	if !identicalAll(l, before) {
		t.Error("Sort's result is its list")
	}
	if n := len(reader.Sort(nil)); n != 0 {
		t.Errorf("Sort of none: %d", n)
	}
}

// P1.2: of many equal ones, too, the first stays.
func TestSortKeepsFirst(t *testing.T) {
	var l []api.Form
	for i := range 500 {
		l = append(l, api.Form{Kind: api.Word, Text: string(rune('a' + i*7%5)), N: i})
	}
	for i, f := range reader.Sort(l) {
		if want := []int{0, 3, 1, 4, 2}[i]; f.N != want {
			t.Errorf("of %s the one at %d stayed, not the one at %d", f.Text, f.N, want)
		}
	}
}
