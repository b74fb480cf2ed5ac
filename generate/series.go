package generate

import (
	"slices"

	"integraph/api"
	"integraph/limits"
	"integraph/number"
	"integraph/polynomial"
)

// Lie returns the derivative of a polynomial along a system.
func Lie(s api.System, p api.Poly) (api.Poly, api.Errno) {
	x, q, err := readBoth(s, p)
	if err != api.OK {
		return nil, err
	}
	return limits.WritePoly(slices.Values(q.Along(x.rates)), len(x.rates))
}

// IsIntegral reports whether a polynomial is a first integral.
func IsIntegral(s api.System, p api.Poly) (bool, api.Errno) {
	x, q, err := readBoth(s, p)
	if err != api.OK {
		return false, err
	}
	return len(q.Along(x.rates)) == 0, api.OK
}

// readBoth returns the values of a system and of a polynomial in its variables, or the first error.
func readBoth(s api.System, p api.Poly) (system, polynomial.Poly, api.Errno) {
	x, err := readSystem(s)
	if err != api.OK {
		return system{}, nil, err
	}
	q, err := limits.ReadPoly(p, len(x.rates))
	return x, q, err
}

// Series returns the Taylor coefficients of the variables of a system.
func Series(s api.System, order int) ([][]api.Rat, api.Errno) {
	x, err := readSystem(s)
	if err != api.OK {
		return nil, err
	}
	if err := x.checkSeries(order); err != api.OK {
		return nil, err
	}
	e := expansion{x, map[polynomial.Powers][]number.Fraction{}}
	series := make([][]api.Rat, len(x.rates))
	// All variables go ahead together: as the first coefficient that is too large ends it, those on the way to it
	// are small.
	for k := range order + 1 {
		for v := range series {
			c, err := limits.WriteRat(e.ofProduct(polynomial.Raised(v+1, 1), k))
			if err != api.OK {
				return nil, err
			}
			series[v] = append(series[v], c)
		}
	}
	return series, api.OK
}

// Along returns the Taylor coefficients of a polynomial along a system.
func Along(s api.System, p api.Poly, order int) ([]api.Rat, api.Errno) {
	x, q, err := readBoth(s, p)
	if err != api.OK {
		return nil, err
	}
	if err := x.checkSeries(order); err != api.OK {
		return nil, err
	}
	e := expansion{x, map[polynomial.Powers][]number.Fraction{}}
	series := make([]api.Rat, order+1)
	for k := range series {
		if series[k], err = limits.WriteRat(e.ofPoly(q, k)); err != api.OK {
			return nil, err
		}
	}
	return series, api.OK
}

// checkSeries returns the error of an order, or that of the starts.
func (x system) checkSeries(order int) api.Errno {
	if order < 0 || order > api.MaxSeries {
		return api.ErrRange
	}
	for _, start := range x.starts {
		if !isExact(start) {
			return api.ErrNone
		}
	}
	return api.OK
}

// expansion finds Taylor coefficients along a system with exact starts: those of the variables that are asked for,
// and of what they need.
type expansion struct {
	system
	known map[polynomial.Powers][]number.Fraction // the coefficients of products of t and the variables, so far
}

// ofPoly returns the coefficient number k of a polynomial.
func (e expansion) ofPoly(p polynomial.Poly, k int) number.Fraction {
	var sum number.Fraction
	for _, t := range p {
		sum = sum.Plus(t.Factor.Times(e.ofProduct(t.Powers, k)))
	}
	return sum
}

// ofProduct returns the coefficient number k of the product of t and the variables with these powers.
func (e expansion) ofProduct(powers polynomial.Powers, k int) number.Fraction {
	for len(e.known[powers]) <= k {
		// What it is made of needs no coefficient of the same product but those before it.
		next := e.next(powers, len(e.known[powers]))
		e.known[powers] = append(e.known[powers], next)
	}
	return e.known[powers][k]
}

// next returns the coefficient number k of a product, of which those before it are known.
func (e expansion) next(powers polynomial.Powers, k int) number.Fraction {
	v := slices.IndexFunc(powers[:], func(power uint8) bool { return power > 0 })
	switch {
	case v < 0 && k == 0:
		return number.Whole(1)
	case v < 0:
		return number.Whole(0)
	case powers == polynomial.Raised(v, 1):
		return e.ofVariable(v, k)
	}
	rest := powers
	rest[v]--
	var sum number.Fraction
	for i := range k + 1 {
		sum = sum.Plus(e.ofProduct(polynomial.Raised(v, 1), i).Times(e.ofProduct(rest, k-i)))
	}
	return sum
}

// ofVariable returns the coefficient number k of a variable, or of t.
func (e expansion) ofVariable(v, k int) number.Fraction {
	switch {
	case v == 0 && k == 1:
		return number.Whole(1)
	case v == 0:
		return number.Whole(0)
	case k == 0:
		return e.starts[v-1].Low
	}
	return e.ofPoly(e.rates[v-1], k-1).Over(number.Whole(k))
}
