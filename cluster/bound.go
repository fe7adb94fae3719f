package cluster

import (
	"gavel/api"
	"gavel/core"
)

// mostDoublings is how often layer 11 doubles its patience at most.
const mostDoublings = 16

// Bound is how many rounds of calm are enough for a request, from a view on: that many views may pass, of f of which liars are the primaries, each by the time that a replica and then another one wait in it.
func Bound(c api.Config, view int) int {
	if !core.Fits(c) || view < 0 || view > api.MaxView {
		return 0
	}
	n := 40
	for i := range c.Faults + 3 {
		n += 2*c.Patience<<min(view+i, mostDoublings) + 12
	}
	return n
}
