package module_test

import (
	"maps"
	"slices"
	"strconv"
	"strings"
	"testing"

	"plinth/api"
	"plinth/module"
	"plinth/reader"
)

// P6.1, P6.2: of made modules each function tells what the chapter says.
func TestByTheBook(t *testing.T) {
	m := &maker{dice: 1}
	errors, refined := map[api.Errno]int{}, 0
	for range 700 {
		w := m.world()
		l, want := forms(unmarked(w.text())), w.check()
		errors[want]++
		if got := module.Check(l); got != want {
			t.Fatalf("Check %s: error %d, not %d", w.text(), got, want)
		}
		if want != api.OK {
			continue
		}
		var names []string
		flat := ""
		for _, one := range w.ordered() {
			names = append(names, one.name)
			_, full, _ := w.full(one)
			text := ""
			for _, d := range full {
				text += unmarked(d.text("!")) + " "
				if !one.abstract {
					flat += w.flat(one, d) + " "
				}
			}
			if one.refines != "" && len(one.decls) > 0 {
				refined++
			}
			if got := told(module.Full(l, one.name)); got != written(forms(text)) {
				t.Fatalf("Full %s of %s:\n got %s\nwant %s", one.name, w.text(), got, text)
			}
			if got, want := named(module.Declares(l, one.name)), strings.Join(declared(full), " "); got != want {
				t.Fatalf("Declares %s of %s: %s, not %s", one.name, w.text(), got, want)
			}
			for _, name := range []string{m.one(m.uses...), m.one(m.uses...), m.one(m.uses...), "n1", "none", "int"} {
				if got, want := meant(module.Means(l, one.name, name)), meant(w.means(one, name)); got != want {
					t.Fatalf("Means %s in %s of %s: %s, not %s", name, one.name, w.text(), got, want)
				}
			}
		}
		if got, want := named(module.Order(l)), strings.Join(names, " "); got != want {
			t.Fatalf("Order %s: %s, not %s", w.text(), got, want)
		}
		if got := told(module.Flatten(l)); got != written(forms(flat)) {
			t.Fatalf("Flatten %s:\n got %s\nwant %s", w.text(), got, flat)
		}
	}
	for _, err := range []api.Errno{api.ErrDup, api.ErrName, api.ErrLoop, api.ErrType} {
		if errors[err] < 12 {
			t.Errorf("too little was tried: %v", errors)
		}
	}
	if errors[api.OK] < 400 || refined < 400 {
		t.Errorf("too little was tried: %v, %d", errors, refined)
	}
}

// replaced is a text with other names of modules.
func replaced(s string, to map[string]string) string {
	var pairs []string
	for _, from := range slices.Sorted(maps.Keys(to)) {
		for _, end := range []string{" ", ")", "_"} {
			pairs = append(pairs, from+end, to[from]+end)
		}
	}
	return strings.NewReplacer(pairs...).Replace(s)
}

// P6.3: modules with other names are the same but for them. What refines another
// module declares what that one does, and, if it adds nothing, has the same. A
// module without parts flattened alone is itself, renamed.
func TestLaws(t *testing.T) {
	m := &maker{dice: 2}
	tried := map[string]int{}
	for range 700 {
		w := m.world()
		text := unmarked(w.text())
		l := forms(text)
		if module.Check(l) != api.OK {
			continue
		}
		others := map[string]string{"M0": "F", "M1": "M2", "M2": "M0", "M3": "abcdef", "M4": "M1", "M5": "M9", "M9": "M5"}
		before, err := module.Flatten(l)
		after, errAfter := module.Flatten(forms(replaced(text, others)))
		if err != api.OK || errAfter != api.OK || replaced(written(before), others) != written(after) {
			t.Fatalf("Flatten of %s with other names:\n%s\n%s", text, told(before, err), told(after, errAfter))
		}
		for _, one := range w {
			full, _ := module.Full(l, one.name)
			names, _ := module.Declares(l, one.name)
			more := forms("(module Z (refines " + one.name + ")) " + text)
			if got := told(module.Full(more, "Z")); got != written(full) {
				t.Fatalf("Full of a module that adds nothing to %s of %s: %s", one.name, text, got)
			}
			if got := named(module.Declares(more, "Z")); got != strings.Join(names, " ") {
				t.Fatalf("Declares of a module that adds nothing to %s of %s: %s", one.name, text, got)
			}
			if one.refines != "" {
				tried["refines"]++
				had, _ := module.Declares(l, one.refines)
				for _, name := range had {
					if !slices.Contains(names, name) {
						t.Fatalf("Declares %s of %s: not %s", one.name, text, name)
					}
				}
			}
			if len(one.needs()) == 0 && !one.abstract {
				tried["alone"]++
				alone := forms(unmarked(one.text()))
				flat, err := module.Flatten(alone)
				if got := strings.ReplaceAll(told(flat, err), one.name+"_", ""); got != written(alone[0].Kids[2:]) {
					t.Fatalf("Flatten %s alone: %s", written(alone), got)
				}
			}
		}
	}
	if tried["refines"] < 300 || tried["alone"] < 200 {
		t.Errorf("too little was tried: %v", tried)
	}
}

// P6.2: as many modules as may be, each one of which refines the one before: what
// is refined may get larger than a form may be, and is refined all the same.
func TestManyRefine(t *testing.T) {
	clause := "(ensures (and" + strings.Repeat(" true", 3000) + "))"
	l := forms("(module M0 (abstract) (method m () () (decreases)) (class C () (method m () ())))")
	for i := 1; i < 20; i++ {
		body := ""
		if i == 10 {
			body = " (body (reveal m))"
		}
		l = append(forms("(module M"+strconv.Itoa(i)+" (refines M"+strconv.Itoa(i-1)+") (method m () () "+clause+body+") (class C () (method m () () "+clause+body+")))"), l...)
	}
	size := reader.Size(form(clause))
	for i, name := range []string{"M19", "M18"} {
		full, err := module.Full(l, name)
		if err != api.OK || len(full) != 2 || reader.Size(full[0]) != 5+2+5+(19-i)*size || reader.Size(full[1]) != 4+5+5+(19-i)*size {
			t.Errorf("Full %s: error %d", name, err)
		}
	}
	flat, err := module.Flatten(l)
	if err != api.OK || len(flat) != 2*19 {
		t.Fatalf("Flatten: error %d, %d", err, len(flat))
	}
	for i, decl := range flat {
		name := "M" + strconv.Itoa(i/2+1)
		if i%2 > 0 {
			decl = decl.Kids[3]
			if decl.Kids[1].Text != "m" {
				t.Errorf("the member %s", decl.Kids[1].Text)
			}
		} else if decl.Kids[1].Text != name+"_m" {
			t.Errorf("the method %s of %s", decl.Kids[1].Text, name)
		}
		last := decl.Kids[len(decl.Kids)-1]
		if hasBody := i/2+1 >= 10; hasBody != (reader.Write(last) == "(body (reveal "+name+"_m))") {
			t.Errorf("the body in %s", name)
		}
	}
}
