package reader

import (
	"strconv"
	"strings"

	"plinth/api"
)

// maxTextForm is how many bytes a text may have.
const maxTextForm = 2000

// A scanner goes through a text from the front.
type scanner struct {
	text string
	at   int
	// open has the forms read so far: those of the whole text first, then
	// those of each list that is not yet closed.
	open [][]api.Form
	// tight says that a number, a word or a text ends just ahead of at, so
	// that no other one may begin there.
	tight bool
}

// step reads on by a blank, a comment, a parenthesis or a form.
func (r *scanner) step() api.Errno {
	b := r.text[r.at]
	switch {
	case isBlank(b), b == ';':
		r.skip(b)
	case b == '(':
		r.at++
		r.tight = false
		r.open = append(r.open, nil)
	case b == ')':
		return r.closeList()
	case !isPlain(b) || r.tight:
		return api.ErrForm
	case b == '"':
		return r.readText()
	default:
		return r.readToken()
	}
	return api.OK
}

// skip passes over a blank, or over a comment, which ends ahead of its line
// feed: that is a blank of its own.
func (r *scanner) skip(b byte) {
	if b == ';' {
		r.run(func(b byte) bool { return b != '\n' })
	} else {
		r.at++
	}
	r.tight = false
}

// run passes over the longest row of bytes that are wanted, and tells it.
func (r *scanner) run(wanted func(b byte) bool) string {
	from := r.at
	for r.at < len(r.text) && wanted(r.text[r.at]) {
		r.at++
	}
	return r.text[from:r.at]
}

// add puts a form behind those of the innermost open list.
func (r *scanner) add(f api.Form) {
	top := len(r.open) - 1
	r.open[top] = append(r.open[top], f)
}

// closeList makes a form of the innermost open list.
func (r *scanner) closeList() api.Errno {
	top := len(r.open) - 1
	if top == 0 {
		return api.ErrForm
	}
	list := api.Form{Kind: api.List, Kids: r.open[top]}
	r.open = r.open[:top]
	r.add(list)
	r.at++
	r.tight = false
	return api.OK
}

// readToken reads a number or a word.
func (r *scanner) readToken() api.Errno {
	f, err := token(r.run(isTokenByte))
	if err != api.OK {
		return err
	}
	r.add(f)
	r.tight = true
	return api.OK
}

// readText reads a text, from its opening quote to its closing one.
func (r *scanner) readText() api.Errno {
	var inside []byte
	for r.at++; r.at < len(r.text); r.at++ {
		b := r.text[r.at]
		switch {
		case b == '"':
			return r.addText(string(inside))
		case b == '\\':
			r.at++
			if r.at == len(r.text) {
				return api.ErrEnd
			}
			meant, ok := unescape(r.text[r.at])
			if !ok {
				return api.ErrForm
			}
			inside = append(inside, meant)
		case b == ' ' || isPlain(b):
			inside = append(inside, b)
		default:
			return api.ErrForm
		}
	}
	return api.ErrEnd
}

// addText ends a text at its closing quote.
func (r *scanner) addText(inside string) api.Errno {
	if len(inside) > maxTextForm {
		return api.ErrForm
	}
	r.add(api.Form{Kind: api.Text, Text: inside})
	r.at++
	r.tight = true
	return api.OK
}

// unescape is the byte that is meant by a backslash and b.
func unescape(b byte) (byte, bool) {
	switch b {
	case '"', '\\':
		return b, true
	case 'n':
		return '\n', true
	}
	return 0, false
}

// token is the number or the word that a token stands for.
func token(s string) (api.Form, api.Errno) {
	if !isNumeral(s) {
		if len(s) > api.MaxName {
			return api.Form{}, api.ErrForm
		}
		return api.Form{Kind: api.Word, Text: s}, api.OK
	}
	if !isCanonical(s) {
		return api.Form{}, api.ErrForm
	}
	n, err := strconv.Atoi(s)
	if err != nil || !inRange(n) {
		return api.Form{}, api.ErrRange
	}
	return api.Form{Kind: api.Num, N: n}, api.OK
}

// isNumeral tells whether a token is digits, or - and digits.
func isNumeral(s string) bool {
	digits := strings.TrimPrefix(s, "-")
	return digits != "" && allBytes(digits, isDigit)
}

// isCanonical tells whether a numeral is as numbers are written.
func isCanonical(s string) bool {
	digits := strings.TrimPrefix(s, "-")
	return digits[0] != '0' || s == "0"
}

// inRange tells whether a number may stand in a form.
func inRange(n int) bool {
	return -api.MaxInt <= n && n <= api.MaxInt
}

func isBlank(b byte) bool {
	return b == ' ' || b == '\t' || b == '\n'
}

func isDigit(b byte) bool {
	return '0' <= b && b <= '9'
}

// isPlain tells whether b may stand outside of comments and is no blank.
func isPlain(b byte) bool {
	return 33 <= b && b <= 126
}

// isTokenByte tells whether b may stand in a number or a word.
func isTokenByte(b byte) bool {
	return isPlain(b) && b != '(' && b != ')' && b != '"' && b != ';'
}

// allBytes tells whether all bytes of s are wanted.
func allBytes(s string, wanted func(b byte) bool) bool {
	for i := range len(s) {
		if !wanted(s[i]) {
			return false
		}
	}
	return true
}
