package house

import (
	"strings"
	"testing"
)

// P10.12: audits of houses that no commands have made.
func TestBadHouses(t *testing.T) {
	for name, spoil := range map[string]func(h *House){
		"a stone in no parcel that there is": func(h *House) { h.of(2).parcel = "gone" },
		"a parcel that is gone":              func(h *House) { delete(h.parcels, "a") },
		"money from nowhere":                 func(h *House) { h.accounts[3]++ },
		"money that is gone":                 func(h *House) { h.accounts[0]-- },
	} {
		h := New()
		h.Run("stone 5 1.1.1\nstone 6 1.1.1\nparcel a 1\nmove 0 1 5")
		if a := h.Audit(); !a.Good {
			t.Fatalf("audit %v", a)
		}
		spoil(h)
		a := h.Audit()
		if a.Good || !strings.HasPrefix(h.Exec("audit"), "bad 4 2 ") || a.Money != h.accounts[0]+h.accounts[1]+h.accounts[3] {
			t.Errorf("%s: %v, %q", name, a, h.Exec("audit"))
		}
	}
}
