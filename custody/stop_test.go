package custody

import (
	"testing"

	"kimberlite/api"
)

// P1: a call ends with the error of need, and lets no other panic out either.
func TestEnding(t *testing.T) {
	call := func(f func()) (e api.Errno) {
		defer func() { e = ending(recover()) }()
		f()
		return api.OK
	}
	if e := call(func() { need(true, api.ErrKey) }); e != api.OK {
		t.Errorf("without a panic: error %d", e)
	}
	for e := api.ErrNil; e <= api.ErrDead; e++ {
		if got := call(func() { need(false, e) }); got != e {
			t.Errorf("error %d; want %d", got, e)
		}
	}
	if e := call(func() { panic("fault") }); e == api.OK {
		t.Errorf("another panic ends with OK")
	}
}
