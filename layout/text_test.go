package layout_test

import (
	"slices"
	"strings"
	"testing"

	"plinth/api"
	"plinth/layout"
)

const tooGreat = "9999999999999999999999"

// wrongTexts are texts that do not read, each with the error of reader that it
// has.
func wrongTexts() map[string]api.Errno {
	return map[string]api.Errno{
		strings.Repeat(" ", api.MaxText+1):                  api.ErrLimit,
		strings.Repeat(")", api.MaxText+1):                  api.ErrLimit,
		strings.Repeat("(", 100) + strings.Repeat(")", 100): api.OK,
		strings.Repeat("(", 101) + strings.Repeat(")", 101): api.ErrLimit,
		"(" + strings.Repeat(" a", api.MaxForm) + ")":       api.ErrLimit,
		")":                    api.ErrForm,
		"(a))":                 api.ErrForm,
		"007":                  api.ErrForm,
		"a\"b\"":               api.ErrForm,
		"\"a\n; b\"":           api.ErrForm,
		"(a \x80)":             api.ErrForm,
		tooGreat:               api.ErrRange,
		"; a\n" + tooGreat:     api.ErrRange,
		"(a":                   api.ErrEnd,
		"(a ; )":               api.ErrEnd,
		"; a\n(":               api.ErrEnd,
		"\"a":                  api.ErrEnd,
		"(" + tooGreat:         api.ErrRange,
		") " + tooGreat + " (": api.ErrForm,
	}
}

// P2.1: ErrArg for a width, then reader's errors.
func TestTextErrors(t *testing.T) {
	for _, c := range widths {
		s, err := layout.Text("a ; b", c.width)
		if err != c.want || (err == api.OK) != (s == "a\n") || err != api.OK && s != "" {
			t.Errorf("Text with the width %d: %q, error %d", c.width, s, err)
		}
		want := c.want
		if want == api.OK {
			want = api.ErrEnd
		}
		if s, err := layout.Text("(a", c.width); err != want || s != "" {
			t.Errorf("Text of what does not read with the width %d: %q, error %d", c.width, s, err)
		}
	}
	for s, want := range wrongTexts() {
		got, err := layout.Text(s, 80)
		if err != want || err != api.OK && got != "" {
			t.Errorf("Text of %.60q: %q, error %d, want %d", s, got, err, want)
		}
	}
}

// P2.1: Comments tells reader's errors.
func TestCommentsErrors(t *testing.T) {
	for s, want := range wrongTexts() {
		l, err := layout.Comments(s)
		if err != want || len(l) != 0 {
			t.Errorf("Comments of %.60q: %q, error %d, want %d", s, l, err, want)
		}
	}
}

// P2.1, P2.2: Same tells the first one's error, then the second one's.
func TestSameErrors(t *testing.T) {
	for a, first := range wrongTexts() {
		for b, second := range wrongTexts() {
			want := first
			if want == api.OK {
				want = second
			}
			same, err := layout.Same(a, b)
			if err != want || same != (err == api.OK) {
				t.Errorf("Same of %.60q and %.60q: %t, error %d, want %d", a, b, same, err, want)
			}
		}
	}
}

// P2.2: whether two texts have the same forms, blanks and comments aside.
func TestSame(t *testing.T) {
	for _, c := range []struct {
		a, b string
		want bool
	}{
		{"", "", true}, {"", "; a\n", true}, {"a", "a", true}, {"(a b) 1", "; c\n( a\n b;c\n)1 ", true}, {`"a\n"`, `"a\n"`, true},
		{"a", "", false}, {"", "()", false}, {"a", "b", false}, {"a b", "b a", false}, {"a", "a a", false}, {"a a", "a", false}, {"(a b)", "a b", false},
		{"a", `"a"`, false}, {"(a)", "((a))", false}, {`"a\n"`, `"a\\n"`, false}, {"(a ; b\n)", "(a b)", false},
	} {
		if same, err := layout.Same(c.a, c.b); err != api.OK || same != c.want {
			t.Errorf("Same of %q and %q: %t, error %d", c.a, c.b, same, err)
		}
	}
}

// P2.2: the bytes of the longest line, of any text.
func TestWidest(t *testing.T) {
	for _, c := range []struct {
		s    string
		want int
	}{
		{"", 0}, {"\n", 0}, {"\n\n\n", 0}, {"a", 1}, {"ab\n", 2}, {"\nab", 2}, {"a\nabc\nab\n", 3}, {"abc\na", 3}, {"a\n\nabcd", 4},
		{"\ta \n", 3}, {"(((", 3}, {"\xff\x00\r\n", 3}, {"\u00e9", 2}, {strings.Repeat("a", 100000) + "\na", 100000},
	} {
		if n := layout.Widest(c.s); n != c.want {
			t.Errorf("Widest of %.60q: %d, want %d", c.s, n, c.want)
		}
	}
}

// P2.2: kept is what stands on a line of its own, outside of all forms.
func TestComments(t *testing.T) {
	for _, c := range []struct {
		s    string
		want []string
	}{
		{"", nil}, {"a", nil}, {"; a", []string{"; a"}}, {"; a\n", []string{"; a"}}, {";", []string{";"}}, {" \t;; a ; b \t \n", []string{";; a ; b"}},
		{"\n\n;a\n\n\n;a\n;b\n", []string{";a", ";a", ";b"}}, {"; \n;\t", []string{";", ";"}},
		{"; a\r\n; \xff\x00 (\")\n", []string{"; a\r", "; \xff\x00 (\")"}},
		// Behind a form on its line.
		{"a ; b", nil}, {"(a) ; b\n", nil}, {"\"a\";b", nil}, {"(a\n) ; b\n; c", []string{"; c"}}, {"(a\n b);c\n;d\n", []string{";d"}},
		// Within a list.
		{"(\n; a\n)", nil}, {"(a (b)\n ; c\n)\n; d", []string{"; d"}}, {"( ; )\n; a\n) ; b\n", nil}, {"((a)\n; b\n)(\n; c\n)\n;d", []string{";d"}},
		// No comment, and no bracket, but part of a text or a comment.
		{"\"; a\"", nil}, {"\"(\"\n; a\n", []string{"; a"}}, {"\"\\\"(\"\n; a", []string{"; a"}}, {"\"\\\\\"\n; a", []string{"; a"}}, {"(\")\"\n; a\n)", nil},
		{"(\"\\\\\" \"(\")\n; a", []string{"; a"}}, {"\\ (\\;\n)\n; a", []string{"; a"}}, {"\"\\n\" ; \"\n; a", []string{"; a"}}, {"(\n;\"\n)\n; a", []string{"; a"}},
		{"; (\n; a\n", []string{"; (", "; a"}}, {"a ; (\n; b\n", []string{"; b"}}, {"(a ; \"\n) ; \"\n; b", []string{"; b"}},
		// Between forms, and between the lines of more than one on a line.
		{"a\n; b\nc\n ;d\ne", []string{"; b", ";d"}}, {"(a) (b\n; c\n)\n; d\n(e)", []string{"; d"}}, {"(a\n) (\n; b\n)", nil},
	} {
		if l, err := layout.Comments(c.s); err != api.OK || !slices.Equal(l, c.want) {
			t.Errorf("Comments of %q: %q, error %d, want %q", c.s, l, err, c.want)
		}
	}
}

const (
	tall     = "(aaaaaaaaaa (bbbbbb c))"
	tallLaid = "(aaaaaaaaaa\n  (bbbbbb c))\n"
)

// P2.2: forms, kept comments and empty lines.
func TestText(t *testing.T) {
	for _, c := range []struct {
		s, want string
	}{
		{"", ""}, {"\n \t\n", ""}, {"a", "a\n"}, {"a 1 \"x\" ( b  c )()", "a\n1\n\"x\"\n(b c)\n()\n"}, {"a\n\n\nb\n", "a\nb\n"},
		// An empty line just between two forms of more lines each.
		{tall, tallLaid}, {tall + tall, tallLaid + "\n" + tallLaid}, {tall + tall + tall, tallLaid + "\n" + tallLaid + "\n" + tallLaid},
		{tall + "\n\n\n" + tall, tallLaid + "\n" + tallLaid},
		{"a" + tall + "b" + tall + "c", "a\n" + tallLaid + "b\n" + tallLaid + "c\n"},
		{tall + "\n\na\n\n" + tall, tallLaid + "a\n" + tallLaid},
		{"(a\n\n  b)(c\nd)", "(a b)\n(c d)\n"},
		// A row of comments: no empty line ahead of the first thing, one ahead
		// of a later row, none within it and behind it.
		{"; a", "; a\n"}, {"\n\n ; a \n\n\n; b\n\n", "; a\n; b\n"}, {"; a\nb", "; a\nb\n"}, {"; a\n\n\nb", "; a\nb\n"}, {"; a\n\n" + tall, "; a\n" + tallLaid},
		{"a\n; b", "a\n\n; b\n"}, {"a\n; b\n\n;c\n", "a\n\n; b\n;c\n"}, {tall + "\n; b\n", tallLaid + "\n; b\n"},
		{"a\n; b\nc", "a\n\n; b\nc\n"}, {"a\n\n\n; b\n\n\n;c\n\n\nd", "a\n\n; b\n;c\nd\n"}, {tall + "\n; b\n" + tall, tallLaid + "\n; b\n" + tallLaid},
		{tall + "\n; b\n; c\n" + tall + tall, tallLaid + "\n; b\n; c\n" + tallLaid + "\n" + tallLaid},
		{"; a\nb\n; c\n(d)\n; e\n; f", "; a\nb\n\n; c\n(d)\n\n; e\n; f\n"},
		// Comments that go.
		{"a ; b\nc", "a\nc\n"}, {"(a ; b\n ; c\n)", "(a)\n"}, {"(a\n; b\n)\n; c", "(a)\n\n; c\n"}, {tall + " ; b\n" + tall + "; c", tallLaid + "\n" + tallLaid},
		{"; a comment may be longer than the width \n(a)", "; a comment may be longer than the width\n(a)\n"},
		// Forms have their own lines, also where they share one with others.
		{"(a) (b\n; c\n)\n; d\n(e) f", "(a)\n(b)\n\n; d\n(e)\nf\n"},
	} {
		if s, err := layout.Text(c.s, 20); err != api.OK || s != c.want {
			t.Errorf("Text of %q: %q, error %d, want %q", c.s, s, err, c.want)
		}
	}
}

// P2.2: the width decides whether a form stands on more than one line.
func TestTextWidth(t *testing.T) {
	for width := 20; width <= 200; width++ {
		want := tallLaid + "\n" + tallLaid
		if width >= len(tall) {
			want = tall + "\n" + tall + "\n"
		}
		if s, err := layout.Text(tall+" "+tall, width); err != api.OK || s != want {
			t.Errorf("Text with the width %d: %q, error %d", width, s, err)
		}
	}
}

// P2.1, P2.2: a text as long as may be, with a row of comments in each place,
// also within a list.
func TestTextLargest(t *testing.T) {
	kept := strings.Repeat(";\n", api.MaxText/2)
	if s, err := layout.Text(kept, 20); err != api.OK || s != kept {
		t.Errorf("Text of many comments: %d bytes, error %d", len(s), err)
	}
	gone := "(" + strings.Repeat("\n;", (api.MaxText-3)/2) + "\n)"
	if s, err := layout.Text(gone, 20); err != api.OK || s != "()\n" {
		t.Errorf("Text of a list of many comments: %.60q, error %d", s, err)
	}
	between := strings.Repeat("a\n;\n", api.MaxText/4)
	if s, err := layout.Text(between, 20); err != api.OK || s != strings.Repeat("a\n\n;\n", api.MaxText/4) {
		t.Errorf("Text of many comments between forms: %d bytes, error %d", len(s), err)
	}
	if l, err := layout.Comments(between); err != api.OK || len(l) != api.MaxText/4 {
		t.Errorf("Comments between forms: %d, error %d", len(l), err)
	}
}
