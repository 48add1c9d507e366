package kind

import (
	"maps"
	"slices"

	"plinth/api"
)

// byName is a substitution by its names: of several pairs of a name the first
// one counts. What is no name is no variable, so a pair of it counts for nothing.
func byName(by []Pair) map[string]api.Form {
	known := map[string]api.Form{}
	for _, pair := range by {
		if _, ok := known[pair.Name]; !ok && isName(pair.Name) {
			known[pair.Name] = pair.To
		}
	}
	return known
}

// ascending is a substitution as pairs.
func ascending(known map[string]api.Form) []Pair {
	var pairs []Pair
	for _, name := range slices.Sorted(maps.Keys(known)) {
		pairs = append(pairs, Pair{Name: name, To: known[name]})
	}
	return pairs
}

// withoutItself is a substitution without pairs of a variable and itself.
func withoutItself(pairs []Pair) []Pair {
	return slices.DeleteFunc(pairs, func(pair Pair) bool {
		return pair.To.Kind == api.Word && pair.To.Text == pair.Name
	})
}
