package aimd

import (
	"slices"
	"testing"

	"fairsluice/api"
)

// TestRaise asks raise itself, since no call from outside comes near its bound: just at MaxRate is no fault, one above it
// is, wherever it lies, and then no share is another.
func TestRaise(t *testing.T) {
	for _, up := range []int{1, 2, 999, api.MaxCap} {
		for many := 1; many <= api.MaxFlows; many++ {
			for at := range many {
				for _, other := range []int{0, 7, api.MaxRate - up} {
					shares := slices.Repeat([]int{other}, many)
					shares[at] = api.MaxRate - up
					want := slices.Repeat([]int{other + up}, many)
					want[at] = api.MaxRate
					if err := raise(shares, up); err != nil || !slices.Equal(shares, want) {
						t.Errorf("up %d, just at MaxRate at %d: got %v, %v; want %v", up, at, shares, err, want)
					}

					shares = slices.Repeat([]int{other}, many)
					shares[at] = api.MaxRate - up + 1
					was := slices.Clone(shares)
					if err := raise(shares, up); err != api.ErrFull || !slices.Equal(shares, was) {
						t.Errorf("up %d, above MaxRate at %d: got %v, %v; want %v, ErrFull", up, at, shares, err, was)
					}
				}
			}
		}
	}
}
