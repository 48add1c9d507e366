package layout_test

import (
	"strconv"
	"strings"
	"testing"

	"plinth/api"
	"plinth/reader"
)

func word(s string) api.Form         { return api.Form{Kind: api.Word, Text: s} }
func list(kids ...api.Form) api.Form { return api.Form{Kind: api.List, Kids: kids} }

// read reads a text that must be forms.
func read(t *testing.T, s string) []api.Form {
	t.Helper()
	l, err := reader.Read(s)
	if err != api.OK {
		t.Fatalf("Read %q: error %d", s, err)
	}
	return l
}

// rows are lines, as one text.
func rows(lines ...string) string {
	return strings.Join(lines, "\n")
}

// nest puts f into n lists, one in the other.
func nest(n int, f api.Form) api.Form {
	for range n {
		f = list(f)
	}
	return f
}

// repeat is a list of n times f.
func repeat(n int, f api.Form) api.Form {
	l := list()
	for range n {
		l.Kids = append(l.Kids, f)
	}
	return l
}

// told lays a form out as the chapter's Terms say it: the first line without
// what stands ahead of it.
func told(f api.Form, column, width, closing int) []string {
	if whole := reader.Write(f); column+len(whole)+closing <= width || len(f.Kids) == 0 {
		return []string{whole}
	}
	kids := f.Kids
	brackets := func(rest []api.Form) int { // behind the first one of rest
		if len(rest) == 1 {
			return closing + 1
		}
		return 0
	}
	var out []string
	if kids[0].Kind != api.Word {
		out = told(kids[0], column+1, width, brackets(kids))
		out[0] = "(" + out[0]
		column++
		kids = kids[1:]
	} else {
		out = []string{"(" + kids[0].Text}
		column += 2
		kids = kids[1:]
		if len(kids) > 0 && kids[0].Kind != api.List {
			out[0] += " " + reader.Write(kids[0])
			kids = kids[1:]
		}
	}
	for len(kids) > 0 {
		part := told(kids[0], column, width, brackets(kids))
		part[0] = strings.Repeat(" ", column) + part[0]
		out = append(out, part...)
		kids = kids[1:]
	}
	out[len(out)-1] += ")"
	return out
}

// dice gives numbers that look like random ones, the same in each run.
type dice uint64

func (d *dice) below(n int) int {
	*d = *d*2862933555777941757 + 3037000493
	return int(uint64(*d)>>33) % n
}

// leaf is a number, a word or a text, often a short one.
func (d *dice) leaf() api.Form {
	long := d.below(4) == 0
	switch d.below(6) {
	case 0:
		if long {
			return api.Form{Kind: api.Num, N: -api.MaxInt}
		}
		return api.Form{Kind: api.Num, N: d.below(30) - 10}
	case 1:
		if long {
			return api.Form{Kind: api.Text, Text: strings.Repeat(" \"\n;)(\\", d.below(12))}
		}
		return api.Form{Kind: api.Text, Text: "t; ("[:d.below(5)]}
	}
	if long {
		return word("w" + strings.Repeat("o", d.below(api.MaxName)))
	}
	return word("abcd"[:1+d.below(4)])
}

// tree is a form of at most that depth, mostly a list.
func (d *dice) tree(depth int) api.Form {
	if depth <= 1 || d.below(3) == 0 {
		return d.leaf()
	}
	l := list()
	for range d.below(6) {
		l.Kids = append(l.Kids, d.tree(depth-1))
	}
	return l
}

// width is one that may be asked for, often a narrow one.
func (d *dice) width() int {
	if d.below(2) == 0 {
		return 20 + d.below(10)
	}
	return 20 + d.below(181)
}

// A source is a text, with what must be found in it.
type source struct {
	text     string
	comments []string
	forms    []api.Form
	// ahead[i] is how many forms stand ahead of comments[i].
	ahead []int
}

// source writes forms with blanks and comments of all sorts between and within
// them.
func (d *dice) source() source {
	var s source
	var out strings.Builder
	for i := range d.below(12) {
		if d.below(3) > 0 {
			f := d.tree(1 + d.below(4))
			s.forms = append(s.forms, f)
			d.loosen(&out, f)
			out.WriteString([]string{"\n", " ", "\n\n", "; gone ) \" (\n", " \t; gone\n", "\t \n\t"}[d.below(6)])
			continue
		}
		// A line of its own begins here, which is one that is kept.
		comment := []string{";", "; kept", ";; ) (", "; \" and ; more", "; \t\xff\r"}[d.below(5)] + strconv.Itoa(i)
		out.WriteString("\n" + []string{"", " ", " \t\t "}[d.below(3)] + comment + []string{"", " ", "\t \t"}[d.below(3)] + "\n")
		s.comments = append(s.comments, comment)
		s.ahead = append(s.ahead, len(s.forms))
	}
	s.text = out.String()
	return s
}

// loosen writes a form, with blanks and comments in its lists.
func (d *dice) loosen(out *strings.Builder, f api.Form) {
	if f.Kind != api.List {
		out.WriteString(reader.Write(f))
		return
	}
	out.WriteByte('(')
	gap := func() {
		out.WriteString([]string{" ", "\n", "\n ; gone ( \" \n", ";gone)\n", "\n;gone\n;too\n", " \t\n"}[d.below(6)])
	}
	for _, kid := range f.Kids {
		d.loosen(out, kid)
		gap()
	}
	if d.below(3) == 0 {
		gap()
	}
	out.WriteByte(')')
}

// equal compares lists of forms.
func equal(a, b []api.Form) bool {
	return reader.Equal(list(a...), list(b...))
}
