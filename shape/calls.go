package shape

import (
	"plinth/api"
	"plinth/reader"
)

// eachList shows all lists in a form. What other forms have in their field for
// Kids is not looked at.
func eachList(f api.Form, show func(list api.Form)) {
	if !isList(f) {
		return
	}
	show(f)
	for _, kid := range f.Kids {
		eachList(kid, show)
	}
}

// calledBy is the name that a list calls, and whether it calls one.
func calledBy(list api.Form) (string, bool) {
	place := placeOfCall(list)
	if place == 0 || place >= len(list.Kids) || !isNameForm(list.Kids[place]) {
		return "", false
	}
	return list.Kids[place].Text, true
}

// placeOfCall is the index at which a list names what it calls; 0: nowhere.
func placeOfCall(list api.Form) int {
	listFirst := len(list.Kids) > 1 && isList(list.Kids[1])
	switch head := reader.Head(list); {
	case head == "call" && listFirst:
		return 2
	case head == "call", head == "prefix":
		return 1
	case head == "fuel":
		return 2
	case head == "lemma" && listFirst:
		return 3
	}
	return 0
}
