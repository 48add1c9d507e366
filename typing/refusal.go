package typing

import "plinth/api"

// must stops what refusal runs with an error, unless something holds.
func must(holds bool, err api.Errno) {
	if !holds {
		panic(err)
	}
}

// refusal runs work, and tells the error that stopped it, if one did. The first
// thing that is wrong leaves what is around it without a type.
func refusal(work func()) (err api.Errno) {
	defer func() {
		if stopped := recover(); stopped != nil {
			err = stopped.(api.Errno)
		}
	}()
	work()
	return api.OK
}
