package reader_test

import (
	"slices"
	"strings"
	"testing"

	"plinth/api"
	"plinth/reader"
)

// P1.3: what is written is read as what it was, for made forms.
func TestReadOfWrite(t *testing.T) {
	d := dice(1)
	for range 2000 {
		l := d.forms(d.below(6))
		read, err := reader.Read(reader.WriteAll(l))
		if err != api.OK || !identicalAll(read, l) {
			t.Fatalf("Read of WriteAll of %q: %v, error %d", reader.WriteAll(l), read, err)
		}
		for _, f := range l {
			if !reader.Valid(f) || !identical(one(t, reader.Write(f)), f) {
				t.Fatalf("One of Write of %q", reader.Write(f))
			}
		}
	}
}

// P1.3: and for all that a short text can be read as.
func TestReadOfWriteOfRead(t *testing.T) {
	letters := []string{"(", ")", `"`, `\`, ";", " ", "\n", "a", "n", "1", "0", "-"}
	everyText(letters, 5, func(s string) {
		l, err := reader.Read(s)
		if err != api.OK {
			return
		}
		for _, f := range l {
			if !reader.Valid(f) {
				t.Fatalf("Read %q: %v is not valid", s, f)
			}
		}
		again, err := reader.Read(reader.WriteAll(l))
		if err != api.OK || !identicalAll(l, again) {
			t.Fatalf("Read %q is %q, which is read as %v, error %d", s, reader.WriteAll(l), again, err)
		}
	})
}

// P1.3: Compare is an order, and Equal is its 0.
func TestCompareIsOrder(t *testing.T) {
	d := dice(2)
	l := d.forms(60)
	for _, row := range ordered() {
		l = append(l, row...)
	}
	for _, a := range l {
		for _, b := range l {
			ab := reader.Compare(a, b)
			if ab != -reader.Compare(b, a) || reader.Equal(a, b) != (ab == 0) {
				t.Fatalf("%v and %v", a, b)
			}
			if reader.Valid(a) && reader.Valid(b) && (ab == 0) != (reader.Write(a) == reader.Write(b)) {
				t.Fatalf("%v and %v: Compare and Write", a, b)
			}
			for _, c := range l {
				if ab <= 0 && reader.Compare(b, c) <= 0 && reader.Compare(a, c) > 0 {
					t.Fatalf("%v, %v, %v", a, b, c)
				}
			}
		}
	}
}

// P1.3: a sorted list ascends, has each form of the list and no other one.
func TestSortAscends(t *testing.T) {
	d := dice(3)
	for range 300 {
		l := d.forms(d.below(30))
		sorted := reader.Sort(l)
		for i, f := range sorted {
			if i > 0 && reader.Compare(sorted[i-1], f) >= 0 {
				t.Fatalf("Sort: %q", reader.WriteAll(sorted))
			}
			if !slices.ContainsFunc(l, func(g api.Form) bool { return identical(f, g) }) {
				t.Fatalf("Sort: %q is new", reader.Write(f))
			}
		}
		for _, f := range l {
			if !slices.ContainsFunc(sorted, func(g api.Form) bool { return reader.Equal(f, g) }) {
				t.Fatalf("Sort: %q is missing", reader.Write(f))
			}
		}
	}
}

// P1.3: At of Put is what was put, Put of At is the form, and parts are no
// greater than the whole.
func TestParts(t *testing.T) {
	d := dice(4)
	for range 300 {
		f := d.form(6)
		before := clone(f)
		g := d.form(3)
		size := 0
		paths(f, nil, func(path []int, want api.Form) {
			size++
			part, err := reader.At(f, path)
			if err != api.OK || !identical(part, want) {
				t.Fatalf("At %v of %q: %v, error %d", path, reader.Write(f), part, err)
			}
			if reader.Size(part) > reader.Size(f) || reader.Depth(part)+len(path) > reader.Depth(f) {
				t.Fatalf("the part at %v of %q is greater", path, reader.Write(f))
			}
			if same, err := reader.Put(f, path, part); err != api.OK || !identical(same, f) {
				t.Fatalf("Put of At %v of %q: error %d", path, reader.Write(f), err)
			}
			changed, err := reader.Put(f, path, g)
			if err != api.OK || reader.Size(changed) != reader.Size(f)-reader.Size(part)+reader.Size(g) {
				t.Fatalf("Put at %v of %q: error %d", path, reader.Write(f), err)
			}
			if put, err := reader.At(changed, path); err != api.OK || !identical(put, g) {
				t.Fatalf("At of Put at %v of %q: error %d", path, reader.Write(f), err)
			}
		})
		if size != reader.Size(f) || !identical(f, before) {
			t.Fatalf("%q has %d parts", reader.Write(before), size)
		}
	}
}

// loosen writes forms with other blanks and with comments, and without the
// blanks that need not stand.
func loosen(d *dice, l []api.Form) string {
	var out strings.Builder
	tight := false // a number, word or text ends here
	gap := func() {
		for range d.below(3) {
			out.WriteString([]string{" ", "\t", "\n", "; a ) \" (\n", ";\n", ";\xff\x00\n"}[d.below(6)])
			tight = false
		}
	}
	var write func(f api.Form)
	write = func(f api.Form) {
		gap()
		if f.Kind != api.List {
			if tight {
				out.WriteByte(' ')
			}
			out.WriteString(reader.Write(f))
			tight = true
			gap()
			return
		}
		out.WriteByte('(')
		tight = false
		for _, kid := range f.Kids {
			write(kid)
		}
		gap()
		out.WriteByte(')')
		tight = false
		gap()
	}
	for _, f := range l {
		write(f)
	}
	if d.below(2) == 0 {
		out.WriteString("; the end")
	}
	return out.String()
}

// P1.3: comments and blanks change nothing.
func TestBlanksChangeNothing(t *testing.T) {
	d := dice(5)
	for range 1000 {
		l := d.forms(d.below(5))
		s := loosen(&d, l)
		read, err := reader.Read(s)
		if err != api.OK || !identicalAll(read, l) {
			t.Fatalf("Read %q: %v, error %d, want %q", s, read, err, reader.WriteAll(l))
		}
	}
}

// R9: a call's result does not hang on the calls ahead of it.
func TestSameAgain(t *testing.T) {
	first, err := reader.Read("(a (b) \"c\") 1")
	reader.Read("(((")
	reader.Read("x y z")
	again, err2 := reader.Read("(a (b) \"c\") 1")
	if err != err2 || !identicalAll(first, again) {
		t.Errorf("%v and then %v", first, again)
	}
}
