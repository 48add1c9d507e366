package kind

import "plinth/api"

// must stops what refusal runs with an error, unless something holds.
func must(holds bool, err api.Errno) {
	if !holds {
		panic(err)
	}
}

// refusal runs work, and tells the error that stopped it, if one did. Types
// are gone through by functions that call themselves: the first error is to
// end all of them at once.
func refusal(work func()) (err api.Errno) {
	defer func() {
		if stopped := recover(); stopped != nil {
			err = stopped.(api.Errno)
		}
	}()
	work()
	return api.OK
}
