package shape

import (
	"strings"

	"plinth/api"
)

const maxName = 20 // bytes of a name

// reserved are the words that are no names, with blanks between and around.
const reserved = " true false null this result int bool " +
	"+ - * div mod neg < <= = not and or => iff if let pick match fn app of call make is get " +
	"bits band bor bxor badd bnum seq set bag map empty imap len at cat cut put in join meet less card count look keys " +
	"all some every any forall exists trigger old fresh fuel prefix " +
	"var store new send choose while invariant decreases modifies case assert by assume expect leave label each lemma " +
	"requires ensures calc reveal ghost block " +
	"data codata eq sub trait class field function predicate twostate least greatest tp reads opaque method extern body " +
	"fun maybe module open refines abstract "

// isReserved tells whether a word, which has no blanks, is reserved.
func isReserved(word string) bool {
	return strings.Contains(reserved, " "+word+" ")
}

// isIdentifier tells whether a word is a name, or a reserved word that is
// written as one.
func isIdentifier(s string) bool {
	if len(s) > maxName || s == "" || !isLetter(s[0]) {
		return false
	}
	for i := range len(s) {
		if b := s[i]; !isLetter(b) && b != '_' && (b < '0' || b > '9') {
			return false
		}
	}
	return true
}

func isLetter(b byte) bool {
	return 'a' <= b && b <= 'z' || 'A' <= b && b <= 'Z'
}

// isExprWord tells whether a word is an expression.
func isExprWord(word string) bool {
	switch word {
	case "true", "false", "null", "this", "result":
		return true
	}
	return !isReserved(word)
}

func isNameForm(f api.Form) bool {
	return f.Kind == api.Word && IsName(f.Text)
}

func isResult(f api.Form) bool {
	return f.Kind == api.Word && f.Text == "result"
}

func isList(f api.Form) bool {
	return f.Kind == api.List
}

// mayBeType tells whether a form may be a type, which is not looked into.
func mayBeType(f api.Form) bool {
	return f.Kind == api.Word || f.Kind == api.List
}
