package vlog

import "gavel/api"

// ring is what stands at the numbers of the window. A number has its place by its remainder, so that no two of one window share one, and what stays need not move when the window does.
type ring[T any] struct {
	low    int // the window is above it
	places [api.Window]T
}

// at is the place of a number; nil, if that is not in the window.
func (r *ring[T]) at(seq int) *T {
	if seq <= r.low || seq > r.low+api.Window {
		return nil
	}
	return &r.places[seq%api.Window]
}

// rising are the places of all numbers, by these.
func (r *ring[T]) rising() []*T {
	var out []*T
	for i := range api.Window {
		out = append(out, r.at(r.low+1+i))
	}
	return out
}

// cut moves the window up. The places of the numbers that it leaves are emptied for those that come.
func (r *ring[T]) cut(low int) {
	var none T
	for i, place := range r.rising() {
		if r.low+1+i <= low {
			*place = none
		}
	}
	r.low = low
}
