package house_test

import (
	"fmt"
	"strings"
	"testing"

	"kimberlite/api"
	"kimberlite/house"
)

// P10.3 and P10.6: grants, days and vaults.

// P10.3: day is custody's Next.
func TestDay(t *testing.T) {
	h := built(t, "day 3")
	wantRefused(t, h, api.ErrArg, "day -1", "day 1073741825", "day "+maxNumber, "day -"+maxNumber)
	wantRefused(t, h, api.ErrState, "day 2", "day 0")
	want(t, h, "day 3", "ok", "day 4", "ok", "day 3", "! 9", "day 1073741824", "ok", "day 1073741823", "! 9", "day 1073741825", "! 2", "day 1073741824", "ok")
}

// P10.3: grant is custody's Grant, with its parameters in their order.
func TestGrant(t *testing.T) {
	h := house.New()
	want(t, h, "grant 15 65535 3 1073741824 1048576", "grant 1", "grant 0 1 1 0 1", "grant 2", "grant 3 32768 2 5 -1", "grant 3")
	wantRefused(t, h, api.ErrArg, "grant 16 1 1 1 1", "grant -1 1 1 1 1", "grant 1 0 1 1 1", "grant 1 65536 1 1 1", "grant 1 1 0 1 1", "grant 1 1 4 1 1",
		"grant 1 1 1 -1 1", "grant 1 1 1 1073741825 1", "grant 1 1 1 1 0", "grant 1 1 1 1 -2", "grant 1 1 1 1 1048577", "grant "+words(1<<40, 1, 1, 1, 1))
	want(t, h, "grant 2 1 1 1 1", "grant 4", "could 5", "1", "could 4", "0", "could 32769", "1", "could 8", "0")
	want(t, h, "could 65536", "! 2", "could -1", "! 2", "could 65535", "1")
	for no := 5; no <= 128; no++ {
		want(t, h, "grant 0 1 1 0 1", fmt.Sprint("grant ", no))
	}
	wantRefused(t, h, api.ErrFull, "grant 0 1 1 0 1", "pass 1 15 1 1 1 1 1")
	wantRefused(t, h, api.ErrArg, "grant 0 0 1 0 1", "pass 1 15 1 1 1 1 0")
	wantRefused(t, h, api.ErrRight, "pass 1 14 1 1 1 1 1")
}

// P10.3: pass is custody's Pass, with its parameters in their order.
func TestPass(t *testing.T) {
	h := built(t, "day 2;grant 3 6 3 9 5;grant 4 6 1 9 -1;grant 5 6 3 1 -1;grant 6 7 3 1073741824 -1")
	wantRefused(t, h, api.ErrNone, "pass 0 3 1 2 1 5 1", "pass 5 3 1 2 1 5 1", "pass -1 3 1 2 1 5 1", "pass 5 16 16 0 0 -1 0")
	wantRefused(t, h, api.ErrArg, "pass 1 16 1 2 1 5 1", "pass 1 -1 1 2 1 5 1", "pass 1 3 16 2 1 5 1", "pass 1 3 1 0 1 5 1", "pass 1 3 1 2 4 5 1", "pass 1 3 1 2 1 -1 1", "pass 1 3 1 2 1 5 0")
	wantRefused(t, h, api.ErrRight, "pass 1 1 3 2 1 5 1", "pass 1 4 1 2 1 5 1", "pass 2 4 1 2 1 5 1", "pass 3 5 1 2 1 1 1", "pass 1 3 1 1 1 5 1", "pass 1 3 1 7 1 5 1",
		"pass 1 3 1 2 1 10 1", "pass 1 3 1 2 1 5 6", "pass 1 3 1 2 1 5 -1")
	want(t, h, "pass 1 3 1 6 3 9 5", "grant 5", "pass 5 1 2 2 1 5 4", "grant 6", "pass 4 6 3 7 3 1073741824 -1", "grant 7", "pass 4 6 3 5 2 3 1048576", "grant 8")
	wantRefused(t, h, api.ErrRight, "pass 6 2 1 2 1 5 1", "pass 8 3 1 2 1 3 1", "pass 8 3 1 4 3 3 1")
	want(t, h, "pass 8 3 1 4 2 3 1048576", "grant 9")
}

// P10.3: revoke is custody's Revoke.
func TestRevoke(t *testing.T) {
	h := built(t, "grant 3 6 3 9 5;pass 1 3 4 6 3 9 5;pass 2 4 5 6 3 2 5;pass 2 4 6 6 3 9 5;grant 7 6 3 9 5;day 3")
	wantRefused(t, h, api.ErrNone, "revoke 0 3", "revoke 6 3", "revoke -1 3", "revoke 6 16")
	wantRefused(t, h, api.ErrArg, "revoke 1 16", "revoke 4 -1")
	wantRefused(t, h, api.ErrRight, "revoke 1 4", "revoke 1 1", "revoke 2 5", "revoke 4 5", "revoke 5 3")
	want(t, h, "if revoke 1 3", "3", "if revoke 2 3", "2", "revoke 4 4", "1", "revoke 3 5", "0", "revoke 2 4", "1", "revoke 1 3", "1", "revoke 5 7", "1")
	wantRefused(t, h, api.ErrState, "revoke 4 6", "revoke 2 4", "revoke 1 3", "revoke 3 3", "revoke 5 7")
}

// keyed is a house with a parcel a of the stones 1 and 2, and b of 3; grants of the persons
// 0 and 1 to the vaults 0 to 3, of 2 to those without uses but one, of 0 beneath 1's, and of
// 3 to vault 15.
func keyed(t *testing.T) *house.House {
	t.Helper()
	return built(t, "stone 5 1.1.1;stone 6 1.1.1;stone 7 1.1.1;parcel a 1 2;parcel b 3;"+
		"grant 0 15 3 9 -1;grant 1 15 3 9 -1;grant 2 15 1 9 1;pass 2 1 0 15 1 9 -1;grant 3 32768 1 20 -1;grant 0 32769 1 20 -1")
}

// P10.6: opening a vault, with the errors of custody's Open and that of an open vault
// in their order.
func TestOpen(t *testing.T) {
	h := keyed(t)
	wantRefused(t, h, api.ErrArg, "open 16 1 0 2 1", "open -1 1 0 2 1", "open 16 9 9 9 9", "open "+maxNumber+" 1 0 2 1")
	wantRefused(t, h, api.ErrNone, "open 0 7 0 2 1", "open 0 1 0 7 1", "open 0 0 0 2 1", "open 0 7 5 2 1")
	wantRefused(t, h, api.ErrRight, "open 0 1 1 2 1", "open 0 1 0 2 0", "open 4 1 0 2 1", "open 0 1 5 7 1", "open 15 1 0 5 3", "open 15 6 0 2 1")
	wantRefused(t, h, api.ErrKey, "open 0 1 0 1 0", "open 0 2 1 4 0", "open 0 1 0 4 0", "open 0 4 0 2 1", "open 15 5 3 5 3")
	want(t, h, "open 0 1 0 2 1", "ok")
	wantRefused(t, h, api.ErrState, "open 0 1 0 2 1", "open 0 7 0 2 1", "open 0 1 1 2 1", "open 0 2 1 4 0", "open 0 3 2 2 1")
	wantRefused(t, h, api.ErrArg, "open 16 1 0 2 1", "open -1 7 0 2 1")
	// Another vault has nothing to do with it.
	want(t, h, "open 1 3 2 2 1", "ok", "open 2 3 2 2 1", "! 8", "open 2 7 2 2 1", "! 6", "open 1 3 2 2 1", "! 9", "open 2 2 1 1 0", "ok", "open 15 6 0 5 3", "ok", "open 3 4 0 1 0", "! 13")
	want(t, h, "lock 1", "ok", "open 1 3 2 2 1", "! 8", "open 1 1 0 2 1", "ok", "open 1 1 0 2 1", "! 9")
}

// P10.6: locking a vault.
func TestLock(t *testing.T) {
	h := keyed(t)
	wantRefused(t, h, api.ErrArg, "lock 16", "lock -1", "lock "+maxNumber)
	wantRefused(t, h, api.ErrState, "lock 0", "lock 1", "lock 15")
	do(t, h, "open 0 1 0 2 1;open 15 6 0 5 3")
	wantRefused(t, h, api.ErrState, "lock 1", "lock 14")
	want(t, h, "lock 0", "ok", "lock 0", "! 9", "store a 0", "! 13", "store a 15", "ok", "lock 15", "ok", "lock 15", "! 9", "fetch a", "! 13")
	// Neither the same day nor one that is refused locks anything; a later one locks all.
	do(t, h, "open 0 1 0 2 1;open 1 1 0 2 1;open 15 6 0 5 3;day 0")
	want(t, h, "day -1", "! 2", "store b 1", "ok", "if lock 0", "ok", "if lock 15", "ok", "day 1", "ok")
	wantRefused(t, h, api.ErrState, "lock 0", "lock 1", "lock 15")
	wantRefused(t, h, api.ErrKey, "fetch a", "fetch b")
	want(t, h, "open 1 1 0 2 1", "ok", "day 0", "! 9", "day 1", "ok", "fetch b", "ok", "open 1 1 0 2 1", "! 9", "day 9", "ok", "open 1 1 0 2 1", "ok", "day 10", "ok", "open 1 1 0 2 1", "! 12",
		"lock 1", "! 9", "open 15 6 0 5 3", "ok", "fetch a", "ok", "day 20", "ok", "store a 15", "! 13", "open 15 6 0 5 3", "ok", "store a 15", "ok")
}

// P10.6: a vault that is open stays so, though what opened it stands no longer.
func TestOpenRevoked(t *testing.T) {
	h := keyed(t)
	want(t, h, "open 1 1 0 2 1", "ok", "revoke 1 0", "1", "store a 1", "ok", "fetch a", "ok", "lock 1", "ok", "open 1 1 0 2 1", "! 12", "store a 1", "! 13")
}

// P10.6: storing and fetching, with their errors in their order.
func TestStoreAndFetch(t *testing.T) {
	h := keyed(t)
	wantRefused(t, h, api.ErrNone, "store c 0", "store c 16", "store c -1", "fetch c")
	wantRefused(t, h, api.ErrArg, "store a 16", "store a -1", "store a "+maxNumber)
	wantRefused(t, h, api.ErrKey, "store a 0", "store a 15", "store b 1")
	wantRefused(t, h, api.ErrState, "fetch a", "fetch b")
	do(t, h, "open 1 1 0 2 1")
	wantRefused(t, h, api.ErrKey, "store a 0", "store a 2")
	want(t, h, "store a 1", "ok", "stones a", "vault1 1 2", "stones b", "hand 3")
	wantRefused(t, h, api.ErrState, "store a 1", "store a 0", "store a 16", "store a -1", "fetch b")
	want(t, h, "if fetch a", "ok", "lock 1", "ok")
	wantRefused(t, h, api.ErrKey, "fetch a", "store b 1")
	do(t, h, "open 0 1 0 2 1")
	wantRefused(t, h, api.ErrKey, "fetch a")
	want(t, h, "store b 0", "ok", "stones b", "vault0 3", "open 1 1 0 2 1", "ok", "fetch a", "ok", "stones a", "hand 1 2", "store a 0", "ok", "stones a", "vault0 1 2", "stones b", "vault0 3",
		"fetch b", "ok", "stones a", "vault0 1 2", "stones b", "hand 3", "open 15 6 0 5 3", "ok", "store b 15", "ok", "stones b", "vault15 3")
}

// P10.6, P10.7: what is sold or in a tender is neither stored nor fetched.
func TestStoreLots(t *testing.T) {
	h := keyed(t)
	do(t, h, "open 0 1 0 2 1;store a 0;tender a b")
	wantRefused(t, h, api.ErrState, "store a 0", "store b 0", "store b 16", "store b 1", "fetch a", "fetch b")
	do(t, h, "seal 1 "+sealed(1, 5, 1, 10)+";shut;day 1")
	wantRefused(t, h, api.ErrState, "store b 0", "fetch a", "fetch b")
	want(t, h, "show 1 5 1 10", "ok", "close", "10 1:0", "stones a", "sold 1 2", "stones b", "hand 3")
	wantRefused(t, h, api.ErrState, "store a 0", "store a 16", "fetch a", "fetch b")
	want(t, h, "store b 0", "! 13", "open 0 1 0 2 1", "ok", "store b 0", "ok", "store a 0", "! 9", "fetch a", "! 9", "fetch b", "ok")
	// What is in a vault, and is not sold, stays there.
	want(t, h, "store b 0", "ok", "tender b", "ok", "fetch b", "! 9", "shut", "ok", "close", "0", "stones b", "vault0 3", "fetch b", "ok")
}

// P10.6: all vaults are doors of their own.
func TestAllVaults(t *testing.T) {
	h := built(t, "grant 0 65535 1 9 -1;grant 1 65535 1 9 -1;"+repeat("stone 5 1.1.1", 16))
	for v := range 16 {
		do(t, h, fmt.Sprintf("parcel p%d %d;open %d 1 0 2 1;store p%d %d", v, v+1, v, v, v))
		want(t, h, fmt.Sprintf("stones p%d", v), fmt.Sprintf("vault%d %d", v, v+1), fmt.Sprintf("lock %d", (v+1)%16), map[bool]string{true: "ok", false: "! 9"}[v == 15])
	}
	for v := range 16 {
		want(t, h, fmt.Sprintf("fetch p%d", v), map[bool]string{true: "ok", false: "! 13"}[v > 0])
	}
	if got := h.Exec("stones p3"); !strings.HasPrefix(got, "hand") {
		t.Error(got)
	}
}
