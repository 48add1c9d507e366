package typing_test

import (
	"testing"

	"plinth/api"
	"plinth/typing"
)

// P8.1, P8.2: what README.md shows.
func TestReadme(t *testing.T) {
	p := forms(`(function id (tp a) ((x a)) a x) (sub nat (n int) (<= 0 n) 0) (trait T () (field n nat)) (class C (T))
	(method m ((i int)) ((r nat)) (body (set r (call id (of nat) i)) (set r (+ r 1))))`)
	isLet(t, "a program", p)
	if got := told(typing.Type(p, varsOf("x nat"), "C", form("(if (= x 1) (call id x) (get n this))"))); got != "int" {
		t.Errorf("Type: %s", got)
	}
	if fits, err := typing.Fits(p, form("C"), form("(maybe T)")); !fits || err != api.OK {
		t.Errorf("Fits: %v, error %d", fits, err)
	}
	if got := told(typing.Field(p, form("C"), "n")); got != "nat" {
		t.Errorf("Field: %s", got)
	}
	if got := told(typing.Base(p, form("nat"))); got != "int" {
		t.Errorf("Base: %s", got)
	}
	if got := marksText(typing.Marks(p, "m")); got != "4.1.2.3. nat, 4.2.2. nat" {
		t.Errorf("Marks: %s", got)
	}
	if got := named(typing.Locals(p, "m")); got != "i int r nat" {
		t.Errorf("Locals: %s", got)
	}
}
