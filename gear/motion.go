package gear

import (
	"integraph/api"
	"integraph/limits"
	"integraph/number"
)

// Carrier returns the turns of the carrier of a differential.
func Carrier(sun, ring int, x, y api.Rat) (api.Rat, api.Errno) {
	if !isWheel(sun) || !isWheel(ring) {
		return "", api.ErrRange
	}
	a, b, e := limits.Two(x, y, limits.ReadRat)
	if e != api.OK {
		return "", e
	}
	teeth := a.Times(number.Whole(sun)).Plus(b.Times(number.Whole(ring)))
	return limits.WriteRat(teeth.Over(number.Whole(sun + ring)))
}

// Lost returns the lost motion at the end of a train.
func Lost(train []api.Pair, lost []api.Rat) (api.Rat, api.Errno) {
	if e := check(train); e != api.OK {
		return "", e
	}
	if len(lost) != len(train) {
		return "", api.ErrShape
	}
	turns, e := limits.All(lost, readDistance)
	if e != api.OK {
		return "", e
	}
	var sum number.Fraction
	for i, n := range turns {
		sum = sum.Plus(n.Times(ratioOf(train[i+1:])))
	}
	return limits.WriteRat(sum)
}
