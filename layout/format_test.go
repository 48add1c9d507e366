package layout_test

import (
	"strings"
	"testing"

	"plinth/api"
	"plinth/layout"
)

var widths = []struct {
	width int
	want  api.Errno
}{
	{20, api.OK}, {21, api.OK}, {80, api.OK}, {199, api.OK}, {200, api.OK},
	{19, api.ErrArg}, {201, api.ErrArg}, {0, api.ErrArg}, {-20, api.ErrArg}, {1 << 62, api.ErrArg}, {-1 << 63, api.ErrArg},
}

// P2.1: widths are from 20 to 200.
func TestFormatWidth(t *testing.T) {
	for _, c := range widths {
		s, err := layout.Format(word("a"), c.width)
		if err != c.want || (err == api.OK) != (s == "a") || err != api.OK && s != "" {
			t.Errorf("Format with the width %d: %q, error %d", c.width, s, err)
		}
	}
}

// P2.1: a form that is not valid is ErrArg.
func TestFormatNotValid(t *testing.T) {
	a := word("a")
	loop := list(a)
	loop.Kids[0] = loop
	for name, f := range map[string]api.Form{
		"an empty word":     word(""),
		"a word of digits":  word("12"),
		"a word too long":   word(strings.Repeat("w", api.MaxName+1)),
		"a word, with Kids": {Kind: api.Word, Text: "a", Kids: []api.Form{a}},
		"a number":          {Kind: api.Num, N: api.MaxInt + 1},
		"a text":            {Kind: api.Text, Text: "\t"},
		"a list, with N":    {Kind: api.List, N: 1},
		"a kind":            {Kind: 4},
		"a kind below":      {Kind: -1},
		"a Kid":             list(a, list(a, word("a b"))),
		"too deep":          nest(api.MaxDeep, a),
		"too many parts":    repeat(api.MaxForm, a),
		"a list in itself":  loop,
	} {
		for _, width := range []int{19, 20, 200, 201} {
			if s, err := layout.Format(f, width); err != api.ErrArg || s != "" {
				t.Errorf("Format of %s with the width %d: %q, error %d", name, width, s, err)
			}
		}
	}
}

// formatted are forms, a width, and the lines.
var formatted = []struct {
	form  string
	width int
	want  string
}{
	// On one line: no Kids, or it fits.
	{"a", 20, "a"},
	{"-5", 20, "-5"},
	{`"a line that is longer than the width\n"`, 20, `"a line that is longer than the width\n"`},
	{"()", 20, "()"},
	{"( ( ) )", 20, "(())"},
	{"(a (b 1) \"x\")", 20, "(a (b 1) \"x\")"},
	{"(aaaaaaa bb (cccc d))", 21, "(aaaaaaa bb (cccc d))"},
	{"(aaaaaaa b (cccc d))", 20, "(aaaaaaa b (cccc d))"},
	// The front: a head, and a second Kid that is no list.
	{"(method f (a b c d) (body (x y)))", 20, rows("(method f", "  (a b c d)", "  (body (x y)))")},
	{"(method f (a b c d) (body (x y)))", 32, rows("(method f", "  (a b c d)", "  (body (x y)))")},
	{"(method f (a b c d) (body (x y)))", 33, "(method f (a b c d) (body (x y)))"},
	{"(aaaaaaa bb (cccc d))", 20, rows("(aaaaaaa bb", "  (cccc d))")},
	{"(aaaaaaa 12 (cccc d))", 20, rows("(aaaaaaa 12", "  (cccc d))")},
	{"(aaaaaaa \"\" (cccc d))", 20, rows("(aaaaaaa \"\"", "  (cccc d))")},
	{"(aaaaaaa (cccc d) bb)", 20, rows("(aaaaaaa", "  (cccc d)", "  bb)")},
	{"(aaaaaaa () cccc ddd)", 20, rows("(aaaaaaa", "  ()", "  cccc", "  ddd)")},
	{"(aaaaaaa bb cccc d 1)", 20, rows("(aaaaaaa bb", "  cccc", "  d", "  1)")},
	{"(a \"longer than the width\" b)", 20, rows("(a \"longer than the width\"", "  b)")},
	// Nothing but the front.
	{"(abcdefghij klmnopqrstuvwxyz)", 20, "(abcdefghij klmnopqrstuvwxyz)"},
	{"(abcdefghijklmnopqrstuvwxyz)", 20, "(abcdefghijklmnopqrstuvwxyz)"},
	{"(f (abcdefghij klmnopqrst) c)", 20, rows("(f", "  (abcdefghij klmnopqrst)", "  c)")},
	// The front ( alone: no head.
	{"((aaaaaaaaa) (bbbbbbb c))", 20, rows("((aaaaaaaaa)", " (bbbbbbb c))")},
	{"(1 aaaaaaaaa (bbbbbbb c))", 20, rows("(1", " aaaaaaaaa", " (bbbbbbb c))")},
	{"(\"a\" aaaaaaaa (bbbbb c))", 20, rows("(\"a\"", " aaaaaaaa", " (bbbbb c))")},
	{"(() (aaaaaaaaa (bbbbb c)))", 20, rows("(()", " (aaaaaaaaa", "   (bbbbb c)))")},
	{"((aaaaaaaaaa bbbbbb (cc dd)) (ee))", 20, rows("((aaaaaaaaaa bbbbbb", "   (cc dd))", " (ee))")},
	{"(((aaaaaaaaaa) (bbbbbb) (cc dd)))", 20, rows("(((aaaaaaaaaa)", "  (bbbbbb)", "  (cc dd)))")},
	{"((abcdefghijklmnopqrstuvwxyz))", 20, "((abcdefghijklmnopqrstuvwxyz))"},
	{"(\"longer than the width\")", 20, "(\"longer than the width\")"},
	// Brackets that close behind the last Kid count, behind all others not.
	{"(f (aaaaaaaa (bbbb)) (aaaaaaaa (bbbb)))", 20, rows("(f", "  (aaaaaaaa (bbbb))", "  (aaaaaaaa (bbbb)))")},
	{"(f (aaaaaaaa (bbbbb)) (aaaaaaaa (bbbbb)))", 20, rows("(f", "  (aaaaaaaa (bbbbb))", "  (aaaaaaaa", "    (bbbbb)))")},
	{"(f (aaaaaaaa (bbbbbb)) (c))", 20, rows("(f", "  (aaaaaaaa", "    (bbbbbb))", "  (c))")},
	{"(f (a (aaaaaaaaa (b))))", 20, rows("(f", "  (a", "    (aaaaaaaaa", "      (b))))")},
	{"(f (a (aaaaaaaa (b))))", 20, rows("(f", "  (a", "    (aaaaaaaa (b))))")},
	{"(((aaaaaaaaa (bbb)) c) dd)", 20, rows("(((aaaaaaaaa (bbb))", "  c)", " dd)")},
	{"(((aaaaaaaa (bbb))))", 20, "(((aaaaaaaa (bbb))))"},
	{"(((aaaaaaaaa (bbb))))", 20, rows("(((aaaaaaaaa", "    (bbb))))")},
	{"(((aaaaaaaaa (bbb)) ()))", 20, rows("(((aaaaaaaaa (bbb))", "  ()))")},
	// Lists in lists, indented by two each.
	{
		"(method inc ((x int)) ((y int)) (ensures (< x y)) (body (set y (+ x 1))))", 20,
		rows("(method inc", "  ((x int))", "  ((y int))", "  (ensures (< x y))", "  (body", "    (set y", "      (+ x 1))))"),
	},
	{
		"(method inc ((x int)) ((y int)) (ensures (< x y)) (body (set y (+ x 1))))", 24,
		rows("(method inc", "  ((x int))", "  ((y int))", "  (ensures (< x y))", "  (body", "    (set y (+ x 1))))"),
	},
	{
		"(method inc ((x int)) ((y int)) (ensures (< x y)) (body (set y (+ x 1))))", 25,
		rows("(method inc", "  ((x int))", "  ((y int))", "  (ensures (< x y))", "  (body (set y (+ x 1))))"),
	},
	{
		"(if (and (less first second) (less a b)) (then (return first)) (else (while true skip)))", 20,
		rows("(if", "  (and", "    (less first", "      second)", "    (less a b))", "  (then", "    (return first))", "  (else", "    (while true", "      skip)))"),
	},
}

// P2.2: the lines of a form.
func TestFormat(t *testing.T) {
	for _, c := range formatted {
		f := read(t, c.form)[0]
		if s, err := layout.Format(f, c.width); err != api.OK || s != c.want {
			t.Errorf("Format of %s with the width %d, error %d:\n%s\nwant\n%s", c.form, c.width, err, s, c.want)
		}
	}
}

// P2.1, P2.2: forms as large and as deep as may be.
func TestFormatLargest(t *testing.T) {
	wide := repeat(api.MaxForm-1, word("a"))
	s, err := layout.Format(wide, 20)
	if err != api.OK || s != "(a a"+strings.Repeat("\n  a", api.MaxForm-3)+")" {
		t.Errorf("Format of many parts: %d bytes, error %d", len(s), err)
	}
	deep := nest(api.MaxDeep-1, word("a"))
	s, err = layout.Format(deep, 20)
	if err != api.OK || s != strings.Repeat("(", api.MaxDeep-1)+"a"+strings.Repeat(")", api.MaxDeep-1) {
		t.Errorf("Format of a deep form: %q, error %d", s, err)
	}
	far, want := list(), ""
	for i := range api.MaxDeep - 1 {
		far = list(word("f"), far)
		want += strings.Repeat(" ", 2*i) + "(f\n"
	}
	want += strings.Repeat(" ", 2*(api.MaxDeep-1)) + "()" + strings.Repeat(")", api.MaxDeep-1)
	s, err = layout.Format(far, 20)
	if err != api.OK || s != want {
		t.Errorf("Format of a form that is indented far: %q, error %d", s, err)
	}
}
