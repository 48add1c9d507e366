package layout

import (
	"iter"
	"strings"

	"plinth/api"
	"plinth/reader"
)

// What stands last on a page.
const (
	nothing = iota
	aComment
	oneLine   // a form on one line
	moreLines // a form on more than one line
)

// A page is a text as it is formatted, up to some form or comment.
type page struct {
	out   []byte
	width int
	last  int
}

// addSource puts the forms of a piece of a text.
func (p *page) addSource(source string) {
	// The whole text reads, and no piece ends within a list: each one reads.
	forms, _ := reader.Read(source)
	for _, f := range forms {
		p.addForm(f)
	}
}

// addForm puts a form, in lines.
func (p *page) addForm(f api.Form) {
	laid := inLines(f, p.width)
	stands := oneLine
	if strings.Contains(laid, "\n") {
		stands = moreLines
	}
	p.add(laid, stands, stands == moreLines && p.last == moreLines)
}

// addComment puts a comment.
func (p *page) addComment(comment string) {
	p.add(comment, aComment, p.last == oneLine || p.last == moreLines)
}

// add puts lines, apart from what is there by an empty line or not.
func (p *page) add(laid string, stands int, apart bool) {
	if apart {
		p.out = append(p.out, '\n')
	}
	p.out = append(p.out, laid...)
	p.out = append(p.out, '\n')
	p.last = stands
}

// pieces shows a text that reads, from the front: each comment that is kept,
// with the source that stands between it and the one ahead of it. The last
// source has no comment behind it ("").
func pieces(s string) iter.Seq2[string, string] {
	return func(yield func(source, comment string) bool) {
		from, open := 0, 0
		for at, line := range lines(s) {
			comment := strings.Trim(line, " \t")
			if open > 0 || !strings.HasPrefix(comment, ";") {
				open = openBehind(line, open)
				continue
			}
			if !yield(s[from:at], comment) {
				return
			}
			from = at + len(line)
		}
		yield(s[from:], "")
	}
}

// openBehind is how many lists are open behind a line of a text that reads, if
// so many are open ahead of it. No text goes on from one line to the next.
func openBehind(line string, open int) int {
	quoted := false
	for i := 0; i < len(line); i++ {
		b := line[i]
		switch {
		case b == '"':
			quoted = !quoted
		case quoted && b == '\\':
			i++
		case quoted:
		case b == ';':
			return open
		case b == '(':
			open++
		case b == ')':
			open--
		}
	}
	return open
}

// lines shows the lines of a text, without their line feeds, each one behind
// the index at which it begins.
func lines(s string) iter.Seq2[int, string] {
	return func(yield func(at int, line string) bool) {
		rest, more := s, true
		for more {
			at := len(s) - len(rest)
			var line string
			line, rest, more = strings.Cut(rest, "\n")
			if !yield(at, line) {
				return
			}
		}
	}
}
