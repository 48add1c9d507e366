package layout_test

import (
	"slices"
	"strings"
	"testing"

	"plinth/api"
	"plinth/layout"
	"plinth/reader"
)

// P2.2, P2.3: the lines of made forms are those that the chapter tells, and
// are read as the form.
func TestFormatLaws(t *testing.T) {
	d := dice(1)
	broken := 0
	for range 20000 {
		f, width := d.tree(1+d.below(7)), d.width()
		before := reader.Write(f)
		s, err := layout.Format(f, width)
		if err != api.OK || s != strings.Join(told(f, 0, width, 0), "\n") {
			t.Fatalf("Format of %s with the width %d, error %d:\n%s", before, width, err, s)
		}
		if again, err := reader.One(s); err != api.OK || !reader.Equal(again, f) {
			t.Fatalf("Format of %s is read as %s, error %d", before, reader.Write(again), err)
		}
		if strings.Contains(s, "\n") {
			broken++
		}
		if reader.Write(f) != before {
			t.Fatalf("Format changed %s", before)
		}
	}
	if broken < 5000 {
		t.Errorf("just %d forms stood on more than one line", broken)
	}
}

// P2.3: no line is longer than the width, but for what cannot be broken.
func TestFormatIsNarrow(t *testing.T) {
	d := dice(2)
	for range 20000 {
		f, width := d.tree(1+d.below(7)), d.width()
		s, _ := layout.Format(f, width)
		for _, line := range strings.Split(s, "\n") {
			if len(line) > width && !unbreakable(line) {
				t.Fatalf("Format of %s with the width %d has the line\n%s", reader.Write(f), width, line)
			}
		}
		if width := min(layout.Widest(s), 200); width >= 20 && layout.Widest(s) == width {
			if again, _ := layout.Format(f, width); layout.Widest(again) > width {
				t.Fatalf("Format of %s with its own width %d", reader.Write(f), width)
			}
		}
	}
}

// unbreakable tells whether a line has at most one number, word or text behind
// a front, with nothing but brackets at both ends.
func unbreakable(line string) bool {
	inside := strings.TrimLeft(line, " ")
	opens := len(inside) - len(strings.TrimLeft(inside, "("))
	inside = strings.TrimRight(inside[opens:], ")")
	if inside == "" { // the empty list
		return true
	}
	l, err := reader.Read(inside)
	if err != api.OK {
		return false
	}
	front := len(l) == 2 && opens > 0 && l[0].Kind == api.Word && l[1].Kind != api.List
	return front || len(l) == 1 && l[0].Kind != api.List
}

// P2.2, P2.3: the comments of made texts are those that were put there as kept
// ones.
func TestCommentsLaws(t *testing.T) {
	d := dice(3)
	for range 5000 {
		s := d.source()
		if l := read(t, s.text); !equal(l, s.forms) {
			t.Fatalf("%q is read as %s", s.text, reader.WriteAll(l))
		}
		if l, err := layout.Comments(s.text); err != api.OK || !slices.Equal(l, s.comments) {
			t.Fatalf("Comments of %q: %q, error %d, want %q", s.text, l, err, s.comments)
		}
	}
}

// page is a source formatted, as the chapter's Terms say it.
func (s source) page(width int) string {
	var out []string
	tallAhead := false
	for i := 0; i <= len(s.forms); i++ {
		var row []string
		for j, comment := range s.comments {
			if s.ahead[j] == i {
				row = append(row, comment)
			}
		}
		if len(row) > 0 && i > 0 {
			out = append(out, "")
		}
		out = append(out, row...)
		if i == len(s.forms) {
			break
		}
		laid := told(s.forms[i], 0, width, 0)
		if len(row) == 0 && tallAhead && len(laid) > 1 {
			out = append(out, "")
		}
		out = append(out, laid...)
		tallAhead = len(laid) > 1
	}
	return strings.Join(append(out, ""), "\n")
}

// P2.2, P2.3: Text of made texts is what the chapter tells, with the same
// forms and comments, and the same when it is formatted again.
func TestTextLaws(t *testing.T) {
	d := dice(4)
	for range 5000 {
		s, width := d.source(), d.width()
		laid, err := layout.Text(s.text, width)
		if err != api.OK || laid != s.page(width) {
			t.Fatalf("Text of %q with the width %d, error %d:\n%s\nwant\n%s", s.text, width, err, laid, s.page(width))
		}
		if same, err := layout.Same(s.text, laid); err != api.OK || !same {
			t.Fatalf("Text of %q has other forms, error %d:\n%s", s.text, err, laid)
		}
		if l, err := layout.Comments(laid); err != api.OK || !slices.Equal(l, s.comments) {
			t.Fatalf("Text of %q has other comments, error %d:\n%s", s.text, err, laid)
		}
		if again, err := layout.Text(laid, width); err != api.OK || again != laid {
			t.Fatalf("Text of Text of %q with the width %d, error %d:\n%s\nand first\n%s", s.text, width, err, again, laid)
		}
		if other, err := layout.Text(laid, d.width()); err != api.OK || other == "" && laid != "" {
			t.Fatalf("Text of Text of %q with another width: error %d", s.text, err)
		}
	}
}

// P2.3: and so of all that a short text can be read as.
func TestTextOfShortTexts(t *testing.T) {
	letters := "(); \n\"\\a"
	var ask func(s string, more int)
	ask = func(s string, more int) {
		forms, want := reader.Read(s)
		laid, err := layout.Text(s, 20)
		if err != want {
			t.Fatalf("Text of %q: error %d, want %d", s, err, want)
		}
		if err == api.OK {
			comments, _ := layout.Comments(s)
			kept, _ := layout.Comments(laid)
			again, _ := layout.Text(laid, 20)
			if !equal(read(t, laid), forms) || again != laid || !slices.Equal(comments, kept) {
				t.Fatalf("Text of %q: %q, and again %q", s, laid, again)
			}
		}
		if more == 0 {
			return
		}
		for i := range len(letters) {
			ask(s+letters[i:i+1], more-1)
		}
	}
	ask("", 6)
}

// R9: a call's result does not hang on the calls ahead of it.
func TestSameAgain(t *testing.T) {
	first, _ := layout.Text("; a\n(b) ; c\n", 30)
	layout.Text("((", 30)
	layout.Comments("(\n; d\n")
	layout.Format(nest(40, word("a")), 20)
	if again, err := layout.Text("; a\n(b) ; c\n", 30); err != api.OK || again != first {
		t.Errorf("%q and then %q, error %d", first, again, err)
	}
}
