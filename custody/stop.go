package custody

import "kimberlite/api"

// stop is the panic by which a call ends at once, with an error.
type stop api.Errno

// need ends the call with an error unless a condition holds.
func need(holds bool, e api.Errno) {
	if !holds {
		panic(stop(e))
	}
}

// ending returns the error with which a call ended, of what it recovered.
func ending(recovered any) api.Errno {
	switch x := recovered.(type) {
	case nil:
		return api.OK
	case stop:
		return api.Errno(x)
	default:
		// No caller is to see a panic, even one that is a fault of this package.
		return api.ErrState
	}
}
