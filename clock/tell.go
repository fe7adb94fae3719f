package clock

// Demand is what all want together.
func (a *Auction) Demand() int {
	if !a.made() {
		return 0
	}
	all := 0
	for _, d := range a.demands {
		all += d.now
	}
	return all
}

// Price is the round's.
func (a *Auction) Price() int {
	if !a.made() {
		return 0
	}
	return a.start + (a.round-1)*a.step
}

// Last is the price of the round ahead; 0 in the first one.
func (a *Auction) Last() int {
	if !a.made() || a.round == 1 {
		return 0
	}
	return a.Price() - a.step
}

// Supply is how much there is.
func (a *Auction) Supply() int {
	if !a.made() {
		return 0
	}
	return a.supply
}

// Round is the round's number, from 1 on.
func (a *Auction) Round() int {
	if !a.made() {
		return 0
	}
	return a.round
}

// State is how it stands.
func (a *Auction) State() int {
	if !a.made() {
		return Void
	}
	return a.state
}

// Wants is a bidder's demand at the end of the round ahead, and the one now.
func (a *Auction) Wants(who int) (was, now int) {
	if !a.made() || !a.has(who) {
		return 0, 0
	}
	d := a.demands[who]
	return d.was, d.now
}
