package shape

import (
	"plinth/api"
	"plinth/reader"
)

// must stops what refusal runs with an error, unless something holds.
func must(holds bool, err api.Errno) {
	if !holds {
		panic(err)
	}
}

// refusal tells the error that ends what is asked of a form. Only valid forms
// are asked: they are no deeper than MaxDeep. The one that is met first is to
// end all functions that are under way, from inside to outside.
func refusal(f api.Form, ask func()) (err api.Errno) {
	if !reader.Valid(f) {
		return api.ErrArg
	}
	defer func() {
		if met := recover(); met != nil {
			err = met.(api.Errno)
		}
	}()
	ask()
	return api.OK
}
