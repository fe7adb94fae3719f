package house_test

import (
	"testing"

	"gavel/api"
)

// 9.1: Pay and Take, at the edges and one beyond them.
func TestPayAndTake(t *testing.T) {
	h := newHouse(t, 3, 1)
	done(t, h, 1, pay(9), pay(1))
	has(t, h, 1, 10, 0)
	has(t, h, 0, 0, 0)
	for _, n := range []int{0, most + 1, end} {
		refused(t, h, "no amount", 1, pay(n), api.ErrArg)
		refused(t, h, "no amount", 1, take(n), api.ErrArg)
	}
	refused(t, h, "more than may be", 0, pay(most-9), api.ErrOver)
	refused(t, h, "the most at once, and more than may be", 1, pay(most), api.ErrOver)
	done(t, h, 0, pay(most-10))
	refused(t, h, "one more than may be", 2, pay(1), api.ErrOver)
	refused(t, h, "more than is there", 1, take(11), api.ErrPoor)
	refused(t, h, "what another one has", 2, take(1), api.ErrPoor)
	done(t, h, 1, buy(0, 0, 2, 3))
	refused(t, h, "more than is free", 1, take(5), api.ErrPoor)
	done(t, h, 1, take(4))
	has(t, h, 1, 6, 6)
	refused(t, h, "what is held", 1, take(1), api.ErrPoor)
	done(t, h, 0, take(most-10))
	has(t, h, 0, 0, 0)
	done(t, h, 2, pay(most-6))
	has(t, h, 2, most-6, 0)
}

// 9.1: Store and Fetch, at the edges and one beyond them.
func TestStoreAndFetch(t *testing.T) {
	for goods := 1; goods <= 4; goods++ {
		for good := range goods {
			h := newHouse(t, 3, goods)
			for _, g := range []int{goods, 4, 5, lot, end} {
				refused(t, h, "no such good", 1, store(g, 1), api.ErrArg)
				refused(t, h, "no such good", 1, fetch(g, 1), api.ErrArg)
			}
			done(t, h, 1, store(good, 9), store(good, 1))
			hasGood(t, h, 1, good, 10, 0)
			for _, n := range []int{0, most + 1, end} {
				refused(t, h, "no amount", 1, store(good, n), api.ErrArg)
				refused(t, h, "no amount", 1, fetch(good, n), api.ErrArg)
			}
			refused(t, h, "more than may be", 0, store(good, most-9), api.ErrOver)
			done(t, h, 0, store(good, most-10))
			refused(t, h, "one more than may be", 2, store(good, 1), api.ErrOver)
			refused(t, h, "more than is there", 1, fetch(good, 11), api.ErrPoor)
			refused(t, h, "what another one has", 2, fetch(good, 1), api.ErrPoor)
			done(t, h, 1, sell(good, 0, 2, 3), offer(good, 4, 5, 1))
			refused(t, h, "more than is free", 1, fetch(good, 5), api.ErrPoor)
			done(t, h, 1, fetch(good, 4))
			hasGood(t, h, 1, good, 6, 6)
			refused(t, h, "what is locked", 1, fetch(good, 1), api.ErrPoor)
			done(t, h, 0, fetch(good, most-10))
			done(t, h, 2, store(good, most-6))
			hasGood(t, h, 2, good, most-6, 0)
		}
	}
}
