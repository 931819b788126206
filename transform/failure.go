package transform

import "plexus/api"

// settled returns what calculate does, and api.OK; or the error with which it
// panics.
func settled[T any](calculate func() T) (result T, err api.Errno) {
	defer func() {
		if failure, isError := recover().(api.Errno); isError {
			err = failure
		}
	}()
	return calculate(), api.OK
}

// require panics with an error unless what is required holds.
func require(holds bool, err api.Errno) {
	if !holds {
		panic(err)
	}
}

// fitting returns a fraction, and panics if there is an error instead.
func fitting(a api.Frac, err api.Errno) api.Frac {
	require(err == api.OK, err)
	return a
}
