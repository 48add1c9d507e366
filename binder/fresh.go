package binder

import (
	"strconv"
	"strings"
)

const maxName = 20 // bytes of a name that has got a number

// fresh does what Fresh does.
func fresh(x string, used map[string]bool) string {
	base, name := withoutNumber(x), x
	for n := 1; used[name]; n++ {
		end := "_" + strconv.Itoa(n)
		name = base[:min(len(base), maxName-len(end))] + end
	}
	return name
}

// withoutNumber is a name without the number at its end, unless it is nothing
// else.
func withoutNumber(x string) string {
	at := strings.LastIndexByte(x, '_')
	if at <= 0 || !isNumeral(x[at+1:]) {
		return x
	}
	return x[:at]
}

// isNumeral tells whether a text is digits without zeros ahead.
func isNumeral(s string) bool {
	if s == "" || s[0] == '0' && s != "0" {
		return false
	}
	return strings.Trim(s, "0123456789") == ""
}
