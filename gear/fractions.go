package gear

import (
	"cmp"
	"iter"
	"slices"

	"integraph/api"
	"integraph/limits"
	"integraph/number"
)

// Expansion returns the expansion of a number.
func Expansion(a api.Rat) ([]api.Rat, api.Errno) { return listOf(a, expansion) }

// Convergents returns the convergents of a number.
func Convergents(a api.Rat) ([]api.Rat, api.Errno) { return listOf(a, convergents) }

// listOf returns the numbers that belong to a number, if they are not too many.
func listOf(a api.Rat, numbers func(a number.Fraction) iter.Seq[number.Fraction]) ([]api.Rat, api.Errno) {
	x, e := limits.ReadRat(a)
	if e != api.OK {
		return nil, e
	}
	var list []number.Fraction
	for n := range numbers(x) {
		if len(list) == api.MaxList {
			return nil, api.ErrMany
		}
		list = append(list, n)
	}
	return limits.All(list, limits.WriteRat)
}

// expansion visits the numbers of an expansion.
func expansion(a number.Fraction) iter.Seq[number.Fraction] {
	return func(yield func(number.Fraction) bool) {
		left := a
	parts:
		for {
			whole := left.Floor()
			switch rest := left.Minus(whole); {
			case !yield(whole), rest.Sign() == 0:
				break parts
			default:
				left = number.Whole(1).Over(rest)
			}
		}
	}
}

// quotient is a number as the quotient of two whole ones.
type quotient struct {
	above, below number.Fraction
}

// value returns the number, where below is not 0.
func (q quotient) value() number.Fraction { return q.above.Over(q.below) }

// plus returns the quotient of the sums of both numbers above and below, where those of the other one are taken n times.
func (q quotient) plus(n number.Fraction, other quotient) quotient {
	return quotient{q.above.Plus(n.Times(other.above)), q.below.Plus(n.Times(other.below))}
}

// beforeAll returns the two quotients from which the convergents of all numbers arise: 0 / 1 and 1 / 0.
func beforeAll() (quotient, quotient) {
	one := number.Whole(1)
	return quotient{below: one}, quotient{above: one}
}

// convergents visits the convergents of a number.
func convergents(a number.Fraction) iter.Seq[number.Fraction] {
	return func(yield func(number.Fraction) bool) {
		before, last := beforeAll()
		for part := range expansion(a) {
			before, last = last, before.plus(part, last)
			if !yield(last.value()) {
				return
			}
		}
	}
}

// neighbours returns the neighbours of a number for a greatest denominator, in any order: the last convergent with such
// a denominator, and, if it is not the number itself, the quotient on the other side that arises from it as the next
// convergent does, but with as many times as the denominator permits.
func neighbours(a, most number.Fraction) []quotient {
	before, last := beforeAll()
	for part := range expansion(a) {
		next := before.plus(part, last)
		if next.below.Compare(most) > 0 {
			times := most.Minus(before.below).Over(last.below).Floor()
			return []quotient{last, before.plus(times, last)}
		}
		before, last = last, next
	}
	return []quotient{last, last}
}

// readNeighbours returns the value of a number, and its neighbours, or the first error of these arguments.
func readNeighbours(a api.Rat, most int) (number.Fraction, []quotient, api.Errno) {
	x, e := limits.ReadRat(a)
	if e != api.OK {
		return number.Fraction{}, nil, e
	}
	if most < 1 || most > api.MaxNumber {
		return number.Fraction{}, nil, api.ErrRange
	}
	return x, neighbours(x, number.Whole(most)), api.OK
}

// Neighbours returns the neighbours of a number with small denominators.
func Neighbours(a api.Rat, most int) (api.Span, api.Errno) {
	_, both, e := readNeighbours(a, most)
	if e != api.OK {
		return api.Span{}, e
	}
	return limits.WriteSpan(number.Point(both[0].value()).Hull(number.Point(both[1].value())))
}

// CheckNeighbours returns OK for the neighbours of a number.
func CheckNeighbours(a api.Rat, most int, s api.Span) api.Errno {
	wanted, e := Neighbours(a, most)
	if e != api.OK {
		return e
	}
	if _, e := limits.ReadSpan(s); e != api.OK {
		return e
	}
	if s != wanted {
		return api.ErrProof
	}
	return api.OK
}

// Approximate returns the nearest number with a small denominator.
func Approximate(a api.Rat, most int) (api.Rat, api.Errno) {
	x, both, e := readNeighbours(a, most)
	if e != api.OK {
		return "", e
	}
	nearest, _ := first(slices.Values(both), order[quotient]{compare: func(p, q quotient) int {
		return cmp.Or(distance(p.value(), x).Compare(distance(q.value(), x)), p.below.Compare(q.below), p.value().Compare(q.value()))
	}})
	return limits.WriteRat(nearest.value())
}
