package quote

import (
	"math"

	"gavel/api"
)

// The language lets a machine join a product and a sum into one operation that rounds once. A conversion keeps them two.

// Mid lies between a bid and an ask.
func Mid(bid, ask float64) float64 {
	switch {
	case math.IsNaN(bid):
		return told(ask)
	case math.IsNaN(ask):
		return bid
	}
	return told(float64(bid/2) + float64(ask/2))
}

// Spread is how far an ask lies above a bid.
func Spread(bid, ask float64) float64 { return told(ask - bid) }

// Vwap is the mean price by volumes.
func Vwap(prices, volumes []float64) (float64, api.Errno) {
	if len(prices) != len(volumes) {
		return 0, api.ErrArg
	}
	worth, volume := 0.0, 0.0
	for i, price := range prices {
		worth += float64(price * volumes[i])
		volume += volumes[i]
	}
	return told(worth / volume), api.OK
}
