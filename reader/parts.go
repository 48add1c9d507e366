package reader

import (
	"cmp"
	"slices"
	"strconv"
	"strings"

	"plinth/api"
)

// kids are the Kids of a list. Other forms have none, whatever stands in
// their field.
func kids(f api.Form) []api.Form {
	if f.Kind != api.List {
		return nil
	}
	return f.Kids
}

// walk shows each part of f to visit, with how deep it stands (f itself: at
// depth), outside ahead of inside, until visit says that it has seen enough.
// It tells whether all parts were shown.
func walk(f api.Form, depth int, visit func(part api.Form, depth int) bool) bool {
	if !visit(f, depth) {
		return false
	}
	for _, kid := range kids(f) {
		if !walk(kid, depth+1, visit) {
			return false
		}
	}
	return true
}

// Size is how many parts a form has.
func Size(f api.Form) int {
	parts := 0
	walk(f, 1, func(api.Form, int) bool {
		parts++
		return true
	})
	return parts
}

// Depth is how deep a form is.
func Depth(f api.Form) int {
	deepest := 0
	walk(f, 1, func(_ api.Form, depth int) bool {
		deepest = max(deepest, depth)
		return true
	})
	return deepest
}

// Valid tells whether a form is as forms must be.
func Valid(f api.Form) bool {
	parts := 0
	return walk(f, 1, func(part api.Form, depth int) bool {
		parts++
		return parts <= api.MaxForm && depth <= api.MaxDeep && validAlone(part)
	})
}

// validAlone tells whether a form is valid but for its Kids and their number.
func validAlone(f api.Form) bool {
	switch f.Kind {
	case api.Num:
		return f.Text == "" && len(f.Kids) == 0 && inRange(f.N)
	case api.Word:
		return f.N == 0 && len(f.Kids) == 0 && validWord(f.Text)
	case api.Text:
		return f.N == 0 && len(f.Kids) == 0 && validText(f.Text)
	case api.List:
		return f.N == 0 && f.Text == ""
	}
	return false
}

func validWord(s string) bool {
	return 1 <= len(s) && len(s) <= api.MaxName && allBytes(s, isTokenByte) && !isNumeral(s)
}

func validText(s string) bool {
	return len(s) <= maxTextForm && allBytes(s, func(b byte) bool {
		return b == '\n' || b == ' ' || isPlain(b)
	})
}

// all tells whether all forms are wanted.
func all(l []api.Form, wanted func(f api.Form) bool) bool {
	return !slices.ContainsFunc(l, func(f api.Form) bool { return !wanted(f) })
}

// Compare is the order of forms: -1, 0 or 1.
func Compare(a, b api.Form) int {
	if c := cmp.Compare(a.Kind, b.Kind); c != 0 {
		return c
	}
	switch a.Kind {
	case api.Num:
		return cmp.Compare(a.N, b.N)
	case api.Word, api.Text:
		return strings.Compare(a.Text, b.Text)
	case api.List:
		return slices.CompareFunc(a.Kids, b.Kids, Compare)
	}
	return 0
}

// Equal tells whether two forms are the same in the order of forms.
func Equal(a, b api.Form) bool {
	return Compare(a, b) == 0
}

// appendForm puts a valid form, as text, behind out.
func appendForm(out []byte, f api.Form) []byte {
	switch f.Kind {
	case api.Num:
		return strconv.AppendInt(out, int64(f.N), 10)
	case api.Word:
		return append(out, f.Text...)
	case api.Text:
		return appendText(out, f.Text)
	}
	out = append(out, '(')
	for i, kid := range f.Kids {
		if i > 0 {
			out = append(out, ' ')
		}
		out = appendForm(out, kid)
	}
	return append(out, ')')
}

// appendText puts the text that stands for s behind out.
func appendText(out []byte, s string) []byte {
	out = append(out, '"')
	for i := range len(s) {
		switch b := s[i]; b {
		case '"', '\\':
			out = append(out, '\\', b)
		case '\n':
			out = append(out, '\\', 'n')
		default:
			out = append(out, b)
		}
	}
	return append(out, '"')
}
