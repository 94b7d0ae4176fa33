package meter

import (
	"testing"

	"fairsluice/api"
)

// TestTicked asks what waits behind one tick. This is told inside the package: about MaxRate the rate is 1 and stays so,
// and no answer tells if more than that waits.
func TestTicked(t *testing.T) {
	for _, c := range []struct{ limit, wait, came, want int }{
		{10, 0, 0, 0}, {10, 0, 9, 0}, {10, 0, 10, 0}, {10, 0, 11, 1}, {10, 3, 6, 0}, {10, 3, 7, 0}, {10, 3, 8, 1},
		{10, 30, 0, 20}, {10, 30, 10, 30}, {10, 30, 25, 45}, {1, 0, 10_000, 9_999}, {1, 1, 10_000, 10_000},
		{1, 2, 10_000, 10_000}, {1_000, 10_000, 999, 9_999}, {1_000, 10_000, 1_000, 10_000}, {1_000, 10_000, 1_001, 10_000},
		{1_000, 10_000, 10_000, 10_000}, {1, 10_000, 10_000, 10_000}, {1_000, 0, 10_000, 9_000}, {1_000, 10_000, 0, 9_000},
	} {
		want := api.Meter{Cap: c.limit, Came: c.came, Wait: c.want}
		for _, came := range []int{0, 7, c.came, 10_000} {
			if got := ticked(api.Meter{Cap: c.limit, Came: came, Wait: c.wait}, c.came); got != want {
				t.Errorf("of %v got %v, want %v", c, got, want)
			}
		}
	}
	// Many ticks on, too, MaxRate waits, and it is gone in as many ticks as it takes.
	m := api.Meter{Cap: 1_000}
	for range 40 {
		m = ticked(m, 10_000)
		if m.Wait > 10_000 {
			t.Fatal(m)
		}
	}
	for range 10 {
		m = ticked(m, 0)
	}
	if m.Wait != 0 {
		t.Errorf("%d wait yet", m.Wait)
	}
}
