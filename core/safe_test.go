package core_test

import (
	"testing"

	"gavel/api"
)

// sights is how often something was seen at honest replicas behind scripts.
type sights struct{ executed, adopted, changed, begun, stable, drops int }

func (s *sights) see(x *world) {
	for _, i := range x.honest() {
		r := x.all[i]
		for _, d := range r.History() {
			if d.Adopted {
				s.adopted++
			} else {
				s.executed++
			}
		}
		if v, begun := r.View(); v > 0 {
			s.changed++
			if begun {
				s.begun++
			}
		}
		if r.Low() > 0 {
			s.stable++
		}
		s.drops += r.Drops()
	}
}

// want: the scripts came to all that they are for.
func (s *sights) want(t *testing.T, least int) {
	t.Helper()
	for _, n := range []int{s.executed, s.adopted, s.changed, s.begun, s.stable, s.drops} {
		if n < least {
			t.Errorf("too little was seen: %+v", s)
		}
	}
}

// someLiars are at most so many of n, each once.
func someLiars(dice func(int) int, most, n int) []int {
	var l []int
	for at := dice(n); len(l) < most; at += 1 + dice(2) {
		l = append(l, at%n)
	}
	return l
}

// lives: in calm a client's next request, which all get every four rounds, is executed by all honest ones: within how many rounds, at most so many; false, if it is not.
func (x *world) lives(most int) (int, bool) {
	x.t.Helper()
	client := x.dice(x.c.Clients)
	x.stamps[client]++
	m := x.ask(client, x.stamps[client])
	for i := range most {
		if i%4 == 0 {
			x.toAll(m)
		}
		x.round()
		all := true
		for _, who := range x.honest() {
			all = all && x.has(who, client, x.stamps[client])
		}
		if all {
			return i + 1, true
		}
	}
	return most, false
}

// 11.6: four replicas and scripts in which messages are lost, doubled and late.
func TestSafeOfFour(t *testing.T) {
	var seen sights
	for seed := range 30 {
		x := newWorld(t, api.Config{Faults: 1, Clients: 3, Goods: 1, Patience: 1 + seed%4})
		x.dice = chance(uint32(seed))
		for i := range 1500 {
			x.step()
			if i%100 == 0 {
				x.audit()
			}
		}
		x.audit()
		seen.see(x)
	}
	seen.want(t, 20)
}

// 11.6: the same with liars, who sign whatever they like as themselves: at most f of each size of consortium.
func TestSafeWithLiars(t *testing.T) {
	var seen sights
	for seed := range 48 {
		dice := chance(uint32(1000 + seed))
		f := 1
		if seed%3 == 0 {
			f = 1 + seed/3%4
		}
		x := newWorld(t, api.Config{Faults: f, Clients: 1 + dice(4), Goods: 1 + dice(2), Patience: 1 + dice(3)}, someLiars(dice, f, 3*f+1)...)
		x.mute = dice(3) == 0
		x.dice = dice
		for i := range 1200 {
			x.step()
			if i%300 == 0 {
				x.audit()
			}
		}
		x.audit()
		seen.see(x)
	}
	seen.want(t, 20)
}

// 11.7: four honest replicas, behind scripts of up to 60 steps.
func TestLives(t *testing.T) {
	worst, changed := 0, 0
	for seed := range 1500 {
		dice := chance(uint32(5000 + seed))
		c := api.Config{Faults: 1, Clients: 1 + dice(4), Goods: 1, Patience: 1 + dice(4)}
		if dice(4) == 0 {
			c.Patience = 1 + dice(64)
		}
		x := newWorld(t, c)
		x.dice = dice
		hasty := dice(3)
		for range dice(60) + 1 {
			if dice(3) < hasty {
				x.tick(dice(x.n))
			} else {
				x.step()
			}
		}
		if dice(2) == 0 {
			x.net = nil
		}
		for _, r := range x.all {
			if v, _ := r.View(); v > 0 {
				changed++
			}
		}
		rounds, ok := x.lives(120)
		if !ok {
			t.Fatalf("seed %d, %+v: not within %d rounds", seed, c, rounds)
		}
		worst = max(worst, rounds)
		x.audit()
	}
	if changed < 100 {
		t.Errorf("%d were in a higher view ahead of calm", changed)
	}
	t.Logf("within %d rounds", worst)
}

// bound is within how many rounds of calm a request is to be executed, though some lie (the whole's G2).
func bound(c api.Config, view int) int {
	n := 40
	for i := 0; i <= c.Faults+2; i++ {
		n += 2*c.Patience<<min(view+i, 16) + 12
	}
	return n
}

// G2: behind scripts with liars, who then go on as replicas do, or say nothing any more.
func TestLivesWithLiars(t *testing.T) {
	for seed := range 60 {
		dice := chance(uint32(9000 + seed))
		f := 1 + seed%8/2*(seed%2)
		c := api.Config{Faults: f, Clients: 1 + dice(4), Goods: 1, Patience: 1 + dice(6)}
		x := newWorld(t, c, someLiars(dice, f, 3*f+1)...)
		x.dice = dice
		for range dice(600) {
			x.step()
		}
		x.mute = dice(2) == 0
		view := 0
		for _, i := range x.honest() {
			v, _ := x.all[i].View()
			view = max(view, v)
		}
		if rounds, ok := x.lives(bound(c, view)); !ok {
			t.Fatalf("seed %d, %+v: not within %d rounds", seed, c, rounds)
		}
		x.audit()
	}
}

// G2: of each size of consortium, all who would lead first say nothing from the beginning on.
func TestLivesWithoutFirstPrimaries(t *testing.T) {
	for f := 1; f <= 4; f++ {
		var first []int
		for i := range f {
			first = append(first, i)
		}
		c := api.Config{Faults: f, Clients: 2, Goods: 1, Patience: 2}
		x := newWorld(t, c, first...)
		x.mute = true
		for range 9 {
			if rounds, ok := x.lives(bound(c, 0)); !ok {
				t.Fatalf("f %d: not within %d rounds", f, rounds)
			}
		}
		for _, i := range x.honest() {
			if v, begun := x.all[i].View(); v != f || !begun || x.all[i].Low() != 8 {
				t.Errorf("%d of f %d is in view %d, %v, and %d is stable", i, f, v, begun, x.all[i].Low())
			}
		}
		x.audit()
	}
}

// 11.6: a stamp takes effect once, though its request is in many batches, and though its client signs two of one stamp.
func TestStampsOnce(t *testing.T) {
	x := four(t)
	a, b := x.ask(0, 1), x.askFor(0, 1, "another one")
	x.executes(1, 0, 1, a, b, a)
	x.executes(1, 0, 2, b, a)
	x.executes(1, 0, 3, x.ask(0, 3), x.ask(0, 2))
	n := 0
	for _, r := range x.told {
		if r.client == 0 {
			n++
		}
	}
	if n != 2 {
		t.Errorf("%d requests were answered: %+v", n, x.told)
	}
	x.audit()
}
