package inhabit_test

import (
	"slices"
	"strconv"
	"strings"
	"testing"

	"plinth/api"
	"plinth/inhabit"
	"plinth/kind"
	"plinth/reader"
)

func num(n int) api.Form             { return api.Form{Kind: api.Num, N: n} }
func word(s string) api.Form         { return api.Form{Kind: api.Word, Text: s} }
func list(kids ...api.Form) api.Form { return api.Form{Kind: api.List, Kids: kids} }

// forms reads a text of forms.
func forms(s string) []api.Form {
	l, err := reader.Read(s)
	if err != api.OK {
		panic("no forms: " + s)
	}
	return l
}

// form reads a text of one form.
func form(s string) api.Form {
	l := forms(s)
	if len(l) != 1 {
		panic("not one form: " + s)
	}
	return l[0]
}

// written are forms as a text, with blanks between.
func written(l ...api.Form) string {
	return strings.TrimSuffix(strings.ReplaceAll(reader.WriteAll(l), "\n", " "), " ")
}

// failed is an error as a text.
func failed(err api.Errno) string {
	return "error " + strconv.Itoa(int(err))
}

// told is a form as a text or, where there is an error, its number.
func told(f api.Form, err api.Errno) string {
	switch {
	case err == api.OK:
		return reader.Write(f)
	case !identical(f, api.Form{}):
		return failed(err) + " with " + reader.Write(f)
	}
	return failed(err)
}

// counted is a number as a text or, where there is an error, its number.
func counted(n int, err api.Errno) string {
	switch {
	case err == api.OK:
		return strconv.Itoa(n)
	case n != 0:
		return failed(err) + " with " + strconv.Itoa(n)
	}
	return failed(err)
}

// said is a truth as a text or, where there is an error, its number.
func said(is bool, err api.Errno) string {
	switch {
	case err == api.OK:
		return strconv.FormatBool(is)
	case is:
		return failed(err) + " with true"
	}
	return failed(err)
}

// named are names as a text or, where there is an error, its number.
func named(l []string, err api.Errno) string {
	if err != api.OK {
		return strings.Join(append(l, failed(err)), " ")
	}
	return strings.Join(l, " ")
}

// rows are those of a table as a text: NAME KIND N, and eq, new.
func rows(l []kind.Row, err api.Errno) string {
	var all []string
	for _, r := range l {
		s := r.Name + " " + strconv.Itoa(r.Kind) + " " + strconv.Itoa(r.N)
		if r.Eq {
			s += " eq"
		}
		if r.New {
			s += " new"
		}
		all = append(all, s)
	}
	if err != api.OK {
		all = append(all, failed(err))
	}
	return strings.Join(all, ", ")
}

// checked is what Check tells, as a text: OK, or NAME and an error.
func checked(p []api.Form) string {
	name, err := inhabit.Check(p)
	if err == api.OK {
		return "OK" + name
	}
	return name + " " + failed(err)
}

// isLet fails if Check does not let a program.
func isLet(t *testing.T, what string, p []api.Form) {
	t.Helper()
	if got := checked(p); got != "OK" {
		t.Errorf("Check %s: %s", what, got)
	}
}

// identical compares all fields of forms, the unused ones too.
func identical(a, b api.Form) bool {
	return a.Kind == b.Kind && a.N == b.N && a.Text == b.Text && slices.EqualFunc(a.Kids, b.Kids, identical)
}

// cloned are forms that share no Kids with those of l.
func cloned(l []api.Form) []api.Form {
	c := make([]api.Form, len(l))
	for i, f := range l {
		f.Kids = cloned(f.Kids)
		c[i] = f
	}
	return c
}

// dice gives numbers that look like random ones, the same in each run.
type dice uint64

func (d *dice) below(n int) int {
	*d = *d*6364136223846793005 + 1442695040888963407
	return int(uint64(*d)>>33) % n
}

// one is one of some texts.
func (d *dice) one(of ...string) string {
	return of[d.below(len(of))]
}

// shuffled are forms in another order.
func (d *dice) shuffled(l []api.Form) []api.Form {
	l = slices.Clone(l)
	for i := range l {
		j := i + d.below(len(l)-i)
		l[i], l[j] = l[j], l[i]
	}
	return l
}
