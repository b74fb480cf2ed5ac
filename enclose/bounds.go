package enclose

import (
	"integraph/api"
	"integraph/limits"
	"integraph/number"
)

// readPlace returns the values of a system, and of a span of t and a box, or the first error.
func readPlace(s api.System, t api.Span, box []api.Span) (system, number.Span, spans, api.Errno) {
	x, e := readSystem(s)
	if e != api.OK {
		return system{}, number.Span{}, nil, e
	}
	at, e := limits.ReadSpan(t)
	if e != api.OK {
		return system{}, number.Span{}, nil, e
	}
	b, e := readSpans(box, len(x.rates))
	return x, at, b, e
}

// greatest returns the greatest one of numbers.
func greatest(first number.Fraction, others ...number.Fraction) number.Fraction {
	for _, other := range others {
		if other.Compare(first) > 0 {
			first = other
		}
	}
	return first
}

// Speeds returns the greatest rates on a box.
func Speeds(s api.System, t api.Span, box []api.Span) ([]api.Rat, api.Errno) {
	x, at, b, e := readPlace(s, t, box)
	if e != api.OK {
		return nil, e
	}
	return limits.All(x.values(at, b), func(rate number.Span) (api.Rat, api.Errno) {
		return limits.WriteRat(rate.Largest())
	})
}

// Lipschitz returns a bound for how much rates differ on a box.
func Lipschitz(s api.System, t api.Span, box []api.Span) (api.Rat, api.Errno) {
	x, at, b, e := readPlace(s, t, box)
	if e != api.OK {
		return "", e
	}
	var bound number.Fraction
	for _, rate := range x.rates {
		var sum number.Fraction
		for v := range x.rates {
			sum = sum.Plus(value(rate.Derivative(v+1), at, b).Largest())
		}
		bound = greatest(bound, sum)
	}
	return limits.WriteRat(bound)
}
