package core

import "gavel/api"

// Overkept tells what a replica keeps that nothing needs any more; empty, if there is nothing: at numbers up to the stable one, wishes that count no more, requests that were executed.
func (r *Replica) Overkept() string {
	for seq := range r.kept {
		if !r.inWindow(seq) {
			return "a batch outside of the window"
		}
	}
	for seq := range r.states {
		if !r.inWindow(seq) || seq > r.done || seq%api.Every != 0 {
			return "a state that is stable"
		}
	}
	for seq := range r.term.plan {
		if seq <= r.log.Low() {
			return "a proposal up to what is stable"
		}
	}
	for _, w := range r.wishes {
		if w.view < r.log.View() || w.view == r.log.View() && r.term.begun {
			return "a wish for a view that is over or has begun"
		}
	}
	for client, w := range r.waiting {
		if last, _ := r.house.Last(client); w.stamp <= last {
			return "a request that was executed"
		}
	}
	if r.out != nil {
		return "what was sent"
	}
	return ""
}
