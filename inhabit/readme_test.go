package inhabit_test

import (
	"testing"

	"plinth/inhabit"
)

// P9.1, P9.2: what README.md shows.
func TestReadme(t *testing.T) {
	p := forms(`(data Tree () (Leaf) (Node (l Tree) (r Tree))) (data Opt (a) (No) (Yes (x a)))
	(data Void () (V (v Void))) (data Neg () (Neg0) (Neg1 (f (fun (Neg) int))))`)
	if got := checked(p); got != "Void error 3" {
		t.Errorf("Check: %s", got)
	}
	if got := checked(p[3:]); got != "Neg error 8" {
		t.Errorf("Check of the last one: %s", got)
	}
	if got := named(inhabit.Founded(p)); got != "Neg Opt Tree" {
		t.Errorf("Founded: %s", got)
	}
	if got := counted(inhabit.Count(p, form("(map bool (Opt bool))"))); got != "16" {
		t.Errorf("Count: %s", got)
	}
	for of, want := range map[string]string{"(map bool (Opt bool))": "(empty (map bool (Opt bool)))", "(Opt (seq int))": "(make No (of (seq int)))"} {
		if got := told(inhabit.Witness(p, form(of))); got != want {
			t.Errorf("Witness %s: %s", of, got)
		}
	}
	if got := said(inhabit.Eq(p, "Opt")) + " " + said(inhabit.Ready(p, "Tree")); got != "false true" {
		t.Errorf("Eq, Ready: %s", got)
	}
	if got := rows(inhabit.Table(p)); got != "Neg 1 0 new, Opt 1 1 new, Tree 1 0 eq new, Void 1 0 eq" {
		t.Errorf("Table: %s", got)
	}
}
