package reader_test

import (
	"strconv"
	"strings"
	"testing"

	"plinth/api"
	"plinth/reader"
)

// readCase is a text, and the error that Read must tell.
type readCase struct {
	s    string
	want api.Errno
}

func askRead(t *testing.T, cases []readCase) {
	t.Helper()
	for _, c := range cases {
		l, err := reader.Read(c.s)
		if err != c.want {
			t.Errorf("Read %q: error %d, want %d", brief(c.s), err, c.want)
		}
		if err != api.OK && len(l) != 0 {
			t.Errorf("Read %q: forms beside an error", brief(c.s))
		}
	}
}

const tooGreat = "9999999999999999999999"

var (
	longWord = strings.Repeat("w", api.MaxName+1)
	longText = `"` + strings.Repeat("t", 2001) + `"`
)

// P1.1: each error by itself.
func TestReadErrorsAlone(t *testing.T) {
	askRead(t, []readCase{
		{"", api.OK}, {" \t\n", api.OK}, {"; told", api.OK}, {";", api.OK},
		{"\r", api.ErrForm}, {"\x00", api.ErrForm}, {"a\x7f", api.ErrForm}, {"\x80", api.ErrForm}, {"é", api.ErrForm}, {"(a \v)", api.ErrForm},
		{")", api.ErrForm}, {"(a))", api.ErrForm}, {"() ) ()", api.ErrForm},
		{longWord, api.ErrForm}, {"-" + longWord, api.ErrForm}, {longText, api.ErrForm},
		{`a"b"`, api.ErrForm}, {`1"b"`, api.ErrForm}, {`"a""b"`, api.ErrForm}, {`"a"b`, api.ErrForm}, {`"a"1`, api.ErrForm},
		{"007", api.ErrForm}, {"-0", api.ErrForm}, {"00", api.ErrForm}, {"-01", api.ErrForm}, {"0" + tooGreat, api.ErrForm}, {"-00", api.ErrForm},
		{tooGreat, api.ErrRange}, {"-" + tooGreat, api.ErrRange}, {strings.Repeat("9", 1000), api.ErrRange},
		{"(", api.ErrEnd}, {"(a", api.ErrEnd}, {"(a (b)", api.ErrEnd}, {`"`, api.ErrEnd}, {`"a`, api.ErrEnd}, {`"a\`, api.ErrEnd}, {`"a\"`, api.ErrEnd},
		{"(a ; )", api.ErrEnd}, {`(a "b)`, api.ErrEnd},
	})
}

// P1.1: within a text only some bytes stand, and only some behind a backslash.
func TestReadBytesOfTexts(t *testing.T) {
	for b := range 256 {
		raw, want := `"a`+string([]byte{byte(b)})+`b"`, api.OK
		if b < 32 || b > 126 || b == '"' || b == '\\' { // "a"b" and "a\b" are wrong, too
			want = api.ErrForm
		}
		askRead(t, []readCase{{raw, want}})
		escaped, want := `"a\`+string([]byte{byte(b)})+`b"`, api.ErrForm
		if b == '"' || b == '\\' || b == 'n' {
			want = api.OK
		}
		askRead(t, []readCase{{escaped, want}})
	}
}

// P1.1: outside of texts all bytes from 33 to 126, and blanks; in comments all.
func TestReadBytesOutside(t *testing.T) {
	for b := range 256 {
		c := string([]byte{byte(b)})
		want := api.OK
		switch {
		case b == '(' || b == '"':
			want = api.ErrEnd
		case b < 32 && b != 9 && b != 10, b > 126, b == ')':
			want = api.ErrForm
		}
		askRead(t, []readCase{{c, want}, {"; a " + c + "\n b", api.OK}, {";" + c, api.OK}})
	}
	l, err := reader.Read("a ; \" ( \x00 \xff )\n b")
	if err != api.OK || !identicalAll(l, []api.Form{word("a"), word("b")}) {
		t.Errorf("a comment: %v %d", l, err)
	}
}

// P1.1: of several errors the one that comes first.
func TestReadFirstError(t *testing.T) {
	tooMany := "(" + strings.Repeat("a ", api.MaxForm) + ")"
	tooDeep := strings.Repeat("(", api.MaxDeep+1) + strings.Repeat(")", api.MaxDeep+1)
	tooLong := strings.Repeat(" ", api.MaxText)
	askRead(t, []readCase{
		// ErrLimit of the text is ahead of all.
		{")" + tooLong, api.ErrLimit}, {tooGreat + tooLong, api.ErrLimit}, {"(" + tooLong, api.ErrLimit},
		// Then what comes first in the text.
		{tooGreat + " )", api.ErrRange}, {") " + tooGreat, api.ErrForm}, {"007 " + tooGreat, api.ErrForm}, {tooGreat + " 007", api.ErrRange},
		{"(" + tooGreat, api.ErrRange}, {"(" + longWord, api.ErrForm}, {"(007", api.ErrForm}, {"(\x00", api.ErrForm},
		{"\"a\nb", api.ErrForm}, {"\"a\tb", api.ErrForm}, {`"a\t`, api.ErrForm},
		{`(a"b`, api.ErrForm}, {`("a"` + tooGreat, api.ErrForm},
		// At the number's end, so ahead of what follows it.
		{tooGreat + `"b"`, api.ErrRange}, {tooGreat + "\x00", api.ErrRange}, {tooGreat + ")", api.ErrRange},
		// At a text's end: one without an end is not too long.
		{longText[:len(longText)-1], api.ErrEnd}, {longText[:len(longText)-1] + "\\n", api.ErrEnd}, {"(" + longText, api.ErrForm},
		// Parts and depth are asked behind all reading.
		{tooMany, api.ErrLimit}, {tooMany + ")", api.ErrForm}, {tooMany + " " + tooGreat, api.ErrRange}, {tooMany + "(", api.ErrEnd},
		{tooDeep, api.ErrLimit}, {tooDeep + " 007", api.ErrForm}, {tooDeep + tooGreat, api.ErrRange}, {tooDeep + `"a`, api.ErrEnd},
		{strings.Repeat("(", api.MaxText), api.ErrEnd},
	})
}

// P1.1: an error stays the first one, whatever stands behind it.
func TestReadErrorStays(t *testing.T) {
	letters := []string{"(", ")", `"`, `\`, ";", " ", "\n", "a", "0", "-", "\x01", tooGreat}
	behind := []string{")", "\x00", "007", tooGreat, `"`, "(", "a"}
	everyText(letters, 4, func(s string) {
		_, first := reader.Read(s)
		if first != api.ErrForm && first != api.ErrRange {
			return
		}
		for _, b := range behind {
			if _, err := reader.Read(s + "\n" + b); err != first {
				t.Fatalf("Read %q: error %d, but %d of %q alone", s+"\n"+b, err, first, s)
			}
		}
	})
}

// P1.1: the limits, and what is just within them.
func TestReadLimits(t *testing.T) {
	deep := func(n int) string { return strings.Repeat("(", n) + strings.Repeat(")", n) }
	wide := func(kids int) string { return "(" + strings.Repeat("a ", kids) + ")" }
	askRead(t, []readCase{
		{strings.Repeat(" ", api.MaxText), api.OK}, {strings.Repeat(" ", api.MaxText+1), api.ErrLimit},
		{strings.Repeat("(", api.MaxText+1), api.ErrLimit},
		{wide(api.MaxForm - 1), api.OK}, {wide(api.MaxForm), api.ErrLimit},
		{wide(api.MaxForm-2) + " a b c", api.OK}, {strings.Repeat("a ", api.MaxForm+5), api.OK},
		{"a " + wide(api.MaxForm), api.ErrLimit}, {wide(api.MaxForm) + " a", api.ErrLimit},
		{deep(api.MaxDeep), api.OK}, {deep(api.MaxDeep + 1), api.ErrLimit}, {deep(30000), api.ErrLimit},
		{strings.Repeat("(", api.MaxDeep-1) + "a" + strings.Repeat(")", api.MaxDeep-1), api.OK},
		{strings.Repeat("(", api.MaxDeep) + "a" + strings.Repeat(")", api.MaxDeep), api.ErrLimit},
		{longWord[1:], api.OK}, {longWord, api.ErrForm},
		{strconv.Itoa(api.MaxInt), api.OK}, {strconv.Itoa(api.MaxInt + 1), api.ErrRange},
		{strconv.Itoa(-api.MaxInt), api.OK}, {strconv.Itoa(-api.MaxInt - 1), api.ErrRange},
		{"9223372036854775808", api.ErrRange}, {"18446744073709551616", api.ErrRange}, {"18446744073709551617", api.ErrRange},
		{`"` + strings.Repeat("t", 2000) + `"`, api.OK}, {longText, api.ErrForm},
		// The bytes that count are those of the text, not those that write it.
		{`"` + strings.Repeat(`\n`, 2000) + `"`, api.OK}, {`"` + strings.Repeat(`\\`, 2001) + `"`, api.ErrForm},
	})
}

// P1.1, P1.2: One has Read's errors, then ErrForm.
func TestOne(t *testing.T) {
	for _, c := range []readCase{
		{"a", api.OK}, {" ; x\n (a b) ; y", api.OK},
		{"", api.ErrForm}, {"; a", api.ErrForm}, {"a b", api.ErrForm}, {"()()", api.ErrForm},
		{"a b " + tooGreat, api.ErrRange}, {"a b (", api.ErrEnd}, {"a b )", api.ErrForm},
		{strings.Repeat("a ", api.MaxText), api.ErrLimit}, {"a " + strings.Repeat("(", 101) + strings.Repeat(")", 101), api.ErrLimit},
	} {
		f, err := reader.One(c.s)
		if err != c.want {
			t.Errorf("One %q: error %d, want %d", brief(c.s), err, c.want)
		}
		if err != api.OK && !identical(f, api.Form{}) {
			t.Errorf("One %q: a form beside an error", brief(c.s))
		}
	}
	if f := one(t, "\t(a b);"); !identical(f, list(word("a"), word("b"))) {
		t.Errorf("One: %v", f)
	}
}

// P1.2: what is read.
func TestRead(t *testing.T) {
	for _, c := range []struct {
		s    string
		want []api.Form
	}{
		{"", nil},
		{"a", []api.Form{word("a")}},
		{"0 7 -7 10", []api.Form{num(0), num(7), num(-7), num(10)}},
		{strconv.Itoa(api.MaxInt), []api.Form{num(api.MaxInt)}},
		{strconv.Itoa(-api.MaxInt), []api.Form{num(-api.MaxInt)}},
		{"- -a 1a --1 -1- +1 1.5 0x 00a 'a \\ {}", []api.Form{
			word("-"), word("-a"), word("1a"), word("--1"), word("-1-"), word("+1"), word("1.5"), word("0x"), word("00a"), word("'a"), word("\\"), word("{}"),
		}},
		{`"" "a b" "\n\"\\" "(;)" "\\n"`, []api.Form{text(""), text("a b"), text("\n\"\\"), text("(;)"), text("\\n")}},
		{"() (()()) ( a\t(\n1 ) )", []api.Form{list(), list(list(), list()), list(word("a"), list(num(1)))}},
		{`a(b)"c"(d)1()x`, []api.Form{word("a"), list(word("b")), text("c"), list(word("d")), num(1), list(), word("x")}},
		{"a;b\nc", []api.Form{word("a"), word("c")}},
		{"\"a\";\n\"b\"", []api.Form{text("a"), text("b")}},
		{"1;2\n;3\n4;5", []api.Form{num(1), num(4)}},
		{"a;\"(\n", []api.Form{word("a")}},
	} {
		l, err := reader.Read(c.s)
		if err != api.OK || !identicalAll(l, c.want) {
			t.Errorf("Read %q: %v, error %d", c.s, l, err)
		}
	}
}

// P1.2: no two lists of a result have Kids in the same memory.
func TestReadSharesNothing(t *testing.T) {
	l, err := reader.Read("(a b) (c d) ((e) (f))")
	if err != api.OK {
		t.Fatal(err)
	}
	want := "(a b x)\n(c d x)\n((e x) (f x) x)\n"
	var grow func(f *api.Form)
	grow = func(f *api.Form) {
		for i := range f.Kids {
			grow(&f.Kids[i])
		}
		if f.Kind == api.List {
			f.Kids = append(f.Kids, word("x"))
		}
	}
	for i := range l {
		grow(&l[i])
	}
	if s := reader.WriteAll(l); s != want {
		t.Errorf("each list with an x behind: %q", s)
	}
}
