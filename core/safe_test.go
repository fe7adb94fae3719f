package core_test

import (
	"testing"

	"gavel/api"
)

type sightings struct{ executed, adopted, views, begun, stable, drops int }

func (s *sightings) see(x *world) {
	for _, i := range x.honest() {
		r := x.all[i]
		for _, d := range r.History() {
			if d.Adopted {
				s.adopted++
			} else {
				s.executed++
			}
		}
		if v, on := r.View(); v > 0 {
			s.views++
			if on {
				s.begun++
			}
		}
		if r.Low() > 0 {
			s.stable++
		}
		s.drops += r.Drops()
	}
}

func TestScripts(t *testing.T) {
	var seen sightings
	for seed := range 60 {
		dice := chance(uint32(seed))
		f := 1 + dice(4)*dice(2)
		c := api.Config{Faults: f, Clients: 1 + dice(4), Goods: 1, Patience: 1 + dice(4)}
		var liars []int
		for len(liars) < f && dice(8) > 0 {
			liars = append(liars, (seed+len(liars)*dice(2)*2+len(liars))%(3*f+1))
		}
		x := newWorld(t, c, uniq(liars)...)
		x.mute = dice(3) == 0
		x.dice = dice
		for range 1500 {
			x.step()
		}
		x.audit()
		seen.see(x)
		if rounds, ok := x.lives(2000); !ok {
			t.Fatalf("seed %d %+v %v: not within %d", seed, c, liars, rounds)
		}
		x.audit()
	}
	t.Logf("%+v", seen)
}

func uniq(l []int) []int {
	var out []int
	m := map[int]int{}
	for _, i := range l {
		if m[i] == 0 {
			out = append(out, i)
		}
		m[i] = 1
	}
	return out
}

func (x *world) lives(most int) (int, bool) {
	client := x.dice(x.c.Clients)
	x.stamps[client]++
	m := x.ask(client, x.stamps[client])
	for i := range most {
		if i%4 == 0 {
			x.toAll(m)
		}
		x.round()
		all := true
		for _, i := range x.honest() {
			all = all && x.has(i, client, x.stamps[client])
		}
		if all {
			return i + 1, true
		}
	}
	return most, false
}
