package custody_test

import (
	"testing"

	"kimberlite/api"
	"kimberlite/custody"
)

// tree is a book with two roots: 1, of the holder 1, with 3 and 4 beneath it, and 5
// and 6 beneath 3; and 2, of the holder 2, with 7 beneath it. Each has the holder of
// its number; 6 stands until the day 4, 5 until the day 6, and all others until 9.
func tree(t *testing.T) *custody.Book {
	t.Helper()
	b := custody.New()
	wantNo(t, 1)(b.Grant(1, 3, 3, 9, -1))
	wantNo(t, 2)(b.Grant(2, 3, 3, 9, -1))
	wantNo(t, 3)(b.Pass(1, 1, 3, 3, 3, 9, -1))
	wantNo(t, 4)(b.Pass(1, 1, 4, 3, 3, 9, -1))
	wantNo(t, 5)(b.Pass(3, 3, 5, 3, 3, 6, -1))
	wantNo(t, 6)(b.Pass(3, 3, 6, 3, 3, 4, -1))
	wantNo(t, 7)(b.Pass(2, 2, 7, 3, 3, 9, -1))
	return b
}

// P6.2: each grant of the tree, by its holder and by those above it.
func TestRevoke(t *testing.T) {
	for _, c := range []struct {
		grant int
		by    []int
		count int
		stand []int
	}{
		{1, []int{1}, 5, []int{2, 7}},
		{2, []int{2}, 2, []int{1, 3, 4, 5, 6}},
		{3, []int{1, 3}, 3, []int{1, 2, 4, 7}},
		{4, []int{1, 4}, 1, []int{1, 2, 3, 5, 6, 7}},
		{5, []int{1, 3, 5}, 1, []int{1, 2, 3, 4, 6, 7}},
		{6, []int{1, 3, 6}, 1, []int{1, 2, 3, 4, 5, 7}},
		{7, []int{2, 7}, 1, []int{1, 2, 3, 4, 5, 6}},
	} {
		for by := range 16 {
			b := tree(t)
			allowed := false
			for _, p := range c.by {
				allowed = allowed || p == by
			}
			if !allowed {
				wantRefused(t, api.ErrRight)(b.Revoke(c.grant, by))
				wantStand(t, b, 1, 2, 3, 4, 5, 6, 7)
				continue
			}
			wantNo(t, c.count)(b.Revoke(c.grant, by))
			wantStand(t, b, c.stand...)
			for _, g := range grants(b) {
				if g.Revoked != (g.No == c.grant) {
					t.Fatalf("after Revoke of %d, grant %d is marked: %v", c.grant, g.No, g.Revoked)
				}
			}
		}
	}
}

// P6.2: only grants that stood until then are counted.
func TestRevokeCounts(t *testing.T) {
	b := tree(t)
	wantErrno(t, api.OK, b.Next(5))
	wantStand(t, b, 1, 2, 3, 4, 5, 7)
	wantNo(t, 4)(b.Copy().Revoke(1, 1))
	wantNo(t, 2)(b.Copy().Revoke(3, 1))
	wantNo(t, 0)(b.Copy().Revoke(6, 6))
	wantNo(t, 1)(b.Revoke(5, 3))
	wantNo(t, 1)(b.Revoke(3, 3))
	wantNo(t, 2)(b.Copy().Revoke(1, 1))
	wantErrno(t, api.OK, b.Next(10))
	wantNo(t, 0)(b.Revoke(1, 1))
	wantNo(t, 0)(b.Revoke(7, 2))
	wantRefused(t, api.ErrState)(b.Revoke(7, 2))
	wantStand(t, b)
}

// P6.2: the errors and their order.
func TestRevokeErrors(t *testing.T) {
	b := tree(t)
	for _, n := range anyInts() {
		if n < 1 || n > 7 {
			wantRefused(t, api.ErrNone)(b.Revoke(n, 1))
			wantRefused(t, api.ErrNone)(b.Revoke(n, n))
			wantRefused(t, api.ErrNone)(b.Revoke(n, -1))
		}
		if !isPerson(n) {
			wantRefused(t, api.ErrArg)(b.Revoke(3, n))
		}
	}
	wantNo(t, 3)(b.Revoke(3, 3))
	for _, grant := range []int{3, 5, 6} {
		wantRefused(t, api.ErrArg)(b.Revoke(grant, 16))
		wantRefused(t, api.ErrRight)(b.Revoke(grant, 2))
		wantRefused(t, api.ErrRight)(b.Revoke(grant, 4))
		wantRefused(t, api.ErrState)(b.Revoke(grant, 1))
		wantRefused(t, api.ErrState)(b.Revoke(grant, 3))
	}
	wantRefused(t, api.ErrState)(b.Revoke(5, 5))
	wantRefused(t, api.ErrRight)(b.Revoke(3, 5))
	wantStand(t, b, 1, 2, 4, 7)
}

// P6.2: a grant above one that was taken back can still be taken back.
func TestRevokeUpwards(t *testing.T) {
	b := tree(t)
	wantNo(t, 1)(b.Revoke(6, 6))
	wantNo(t, 2)(b.Revoke(3, 3))
	wantNo(t, 2)(b.Revoke(1, 1))
	wantStand(t, b, 2, 7)
	for _, grant := range []int{1, 3, 4, 5, 6} {
		wantRefused(t, api.ErrState)(b.Revoke(grant, 1))
	}
}

// P6.2: as many grants in one line as there may be.
func TestRevokeLine(t *testing.T) {
	b := custody.New()
	wantNo(t, 1)(b.Grant(0, 1, 3, 9, -1))
	for no := 2; no <= maxGrants; no++ {
		wantNo(t, no)(b.Pass(no-1, (no-2)%16, (no-1)%16, 1, 3, 9, -1))
	}
	for _, from := range []int{1, 2, 64, maxGrants} {
		wantNo(t, maxGrants-from+1)(b.Copy().Revoke(from, 0))
	}
	wantNo(t, 28)(b.Revoke(101, 0))
	wantNo(t, 100)(b.Revoke(1, 0))
}

// P6.4: a grant stands until its day, and on it.
func TestDays(t *testing.T) {
	b := tree(t)
	for _, c := range []struct {
		day   int
		stand []int
	}{
		{0, []int{1, 2, 3, 4, 5, 6, 7}},
		{4, []int{1, 2, 3, 4, 5, 6, 7}},
		{4, []int{1, 2, 3, 4, 5, 6, 7}},
		{5, []int{1, 2, 3, 4, 5, 7}},
		{6, []int{1, 2, 3, 4, 5, 7}},
		{7, []int{1, 2, 3, 4, 7}},
		{9, []int{1, 2, 3, 4, 7}},
		{10, nil},
		{maxDay, nil},
		{maxDay, nil},
	} {
		wantErrno(t, api.OK, b.Next(c.day))
		if b.Day() != c.day {
			t.Fatalf("day %d; want %d", b.Day(), c.day)
		}
		wantStand(t, b, c.stand...)
	}
}

// P6.4: days that are none, and days that are past.
func TestNextErrors(t *testing.T) {
	for _, day := range anyInts() {
		if !isDay(day) {
			continue
		}
		for _, n := range anyInts() {
			b := custody.New()
			wantErrno(t, api.OK, b.Next(day))
			want, stays := api.OK, n
			if !isDay(n) {
				want, stays = api.ErrArg, day
			} else if n < day {
				want, stays = api.ErrState, day
			}
			wantErrno(t, want, b.Next(n))
			if b.Day() != stays {
				t.Fatalf("from %d to %d: day %d", day, n, b.Day())
			}
		}
	}
}
