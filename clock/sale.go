package clock

import "gavel/api"

// Sale is the price of an auction that is over, and what each gets.
func (a *Auction) Sale() (int, []int, api.Errno) {
	if !a.made() {
		return 0, nil, api.ErrArg
	}
	if a.state == Open {
		return 0, nil, api.ErrNone
	}
	gets := make([]int, len(a.demands))
	if a.state == Void {
		return 0, gets, api.OK
	}
	for who, d := range a.demands {
		gets[who] = d.now
	}
	left := a.supply - a.Demand()
	if a.round == 1 || left == 0 {
		return a.Price(), gets, api.OK
	}
	// More was wanted in the round ahead than there is: the gaps have room for all that is left, and nothing is refused.
	shares, _ := Shares(left, a.gaps())
	for who, n := range shares {
		gets[who] += n
	}
	return a.Last(), gets, api.OK
}

// gaps are how far each one's demand fell from the round ahead.
func (a *Auction) gaps() []int {
	l := make([]int, len(a.demands))
	for who, d := range a.demands {
		l[who] = d.was - d.now
	}
	return l
}

// Shares parts n among gaps as they are great, what is left one by one from the first on.
func Shares(n int, gaps []int) ([]int, api.Errno) {
	all, ok := sumOf(gaps)
	if !ok || !within(n, 0, min(all, api.MaxLot)) {
		return nil, api.ErrArg
	}
	shares := make([]int, len(gaps))
	left := n
	for i, gap := range gaps {
		if gap > 0 { // else all may be 0, by which nothing is divided
			shares[i] = n * gap / all
			left -= shares[i]
		}
	}
	// What is left is less than the gaps that were rounded down, each of which has room for a piece: nobody's turn comes twice.
	for i, gap := range gaps {
		if left > 0 && shares[i] < gap {
			shares[i]++
			left--
		}
	}
	return shares, api.OK
}

// sumOf is all gaps together; false, if there are too many of them, or one may not be.
func sumOf(gaps []int) (int, bool) {
	if len(gaps) > api.MaxBidders {
		return 0, false
	}
	all := 0
	for _, gap := range gaps {
		if !within(gap, 0, api.MaxLot) {
			return 0, false
		}
		all += gap
	}
	return all, true
}
