package layout

import (
	"plinth/api"
	"plinth/reader"
)

// A sheet is where one form is laid out.
type sheet struct {
	out   []byte
	width int
}

// inLines is a valid form in lines, at column 0.
func inLines(f api.Form, width int) string {
	s := &sheet{width: width}
	s.lay(f, 0, 0)
	return string(s.out)
}

// lay puts a form at a column, where so many brackets are to close behind it.
func (s *sheet) lay(f api.Form, column, closing int) {
	if len(f.Kids) == 0 || spare(f, s.width-column-closing) >= 0 {
		s.write(f)
		return
	}
	front := frontKids(f)
	s.layFront(f.Kids[:front])
	inside := column + 1
	if front > 0 {
		inside = column + 2
	}
	for i, kid := range f.Kids[front:] {
		// Behind a front that is the bracket alone, the first Kid stands on
		// its line.
		if front+i > 0 {
			s.startLine(inside)
		}
		behind := 0
		if front+i == len(f.Kids)-1 {
			behind = closing + 1
		}
		s.lay(kid, inside, behind)
	}
	s.out = append(s.out, ')')
}

// frontKids is how many Kids of a list stand in its front.
func frontKids(f api.Form) int {
	if reader.Head(f) == "" {
		return 0
	}
	if len(f.Kids) > 1 && f.Kids[1].Kind != api.List {
		return 2
	}
	return 1
}

// layFront puts a bracket and the Kids that stand right behind it.
func (s *sheet) layFront(kids []api.Form) {
	s.out = append(s.out, '(')
	for i, kid := range kids {
		if i > 0 {
			s.out = append(s.out, ' ')
		}
		s.write(kid)
	}
}

// write puts a form as reader writes it.
func (s *sheet) write(f api.Form) {
	s.out = append(s.out, reader.Write(f)...)
}

// startLine begins a line, and goes to a column of it.
func (s *sheet) startLine(column int) {
	s.out = append(s.out, '\n')
	for range column {
		s.out = append(s.out, ' ')
	}
}

// spare is how much of a room is left behind a form as text, negative where
// the form is too long for it. It looks at no more parts than fit: the length
// of all of Write, asked at each list again, would take too long.
func spare(f api.Form, room int) int {
	if len(f.Kids) == 0 {
		return room - len(reader.Write(f))
	}
	room -= len("()") + len(f.Kids) - 1 // the brackets, and the blanks between Kids
	for _, kid := range f.Kids {
		if room < 0 {
			break
		}
		room = spare(kid, room)
	}
	return room
}
