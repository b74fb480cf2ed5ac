package enclose

import (
	"iter"

	"integraph/api"
	"integraph/number"
	"integraph/polynomial"
)

// element is what can be added and multiplied.
type element[S any] interface {
	Plus(S) S
	Times(S) S
}

// series has spans, or whatever can be added and multiplied, that are numbered from 0 on, as far as they are known.
type series[S element[S]] []S

// product returns the span k of the product of two series.
func (a series[S]) product(b series[S], k int) S {
	sum := a[0].Times(b[k])
	for j := 1; j <= k; j++ {
		sum = sum.Plus(a[j].Times(b[k-j]))
	}
	return sum
}

// expansion is the Taylor series of a system at a span of t and a box; its spans are found one number after another.
type expansion struct {
	system
	places []series[number.Span]                     // the series of t, and of each variable
	known  map[polynomial.Powers]series[number.Span] // the series of products of these, so far
}

// expand returns the Taylor series of a system at a span of t and a box.
func (x system) expand(t number.Span, box spans) *expansion {
	e := &expansion{system: x, known: map[polynomial.Powers]series[number.Span]{}}
	e.places = append(e.places, series[number.Span]{t, number.Point(number.Whole(1))})
	for _, span := range box {
		e.places = append(e.places, series[number.Span]{span})
	}
	return e
}

// at returns the spans k of the variables.
func (e *expansion) at(k int) spans {
	for len(e.places[1]) <= k {
		e.extend()
	}
	var box spans
	for _, variable := range e.places[1:] {
		box = append(box, variable[k])
	}
	return box
}

// extend finds a further span of each variable; t has always one more than they, so that products have theirs.
func (e *expansion) extend() {
	k := len(e.places[1])
	e.places[0] = append(e.places[0], number.Span{})
	share := number.Point(number.Whole(1).Over(number.Whole(k)))
	for i, rate := range e.rates {
		var sum number.Span
		for term := range e.terms(rate, k-1) {
			sum = sum.Plus(term)
		}
		e.places[i+1] = append(e.places[i+1], sum.Times(share))
	}
}

// terms visits the spans k of the series of the terms of a polynomial.
func (e *expansion) terms(p polynomial.Poly, k int) iter.Seq[number.Span] {
	return func(yield func(number.Span) bool) {
		for _, t := range p {
			// A number may be multiplied by last instead of first: for a single number, unlike a span, a multiple of
			// a sum is the sum of the multiples.
			if !yield(number.Point(t.Factor).Times(e.product(t.Powers, k))) {
				return
			}
		}
	}
}

// product returns the span k of the product of the series of t and of the variables, each one as often as its power
// says. The product of series of spans depends on the order of its factors, and that of equal ones is wider than a power
// of spans: so t is multiplied by first, and the last variable last, each time by itself.
func (e *expansion) product(powers polynomial.Powers, k int) number.Span {
	for len(e.known[powers]) <= k {
		next := e.next(powers, len(e.known[powers]))
		e.known[powers] = append(e.known[powers], next)
	}
	return e.known[powers][k]
}

// next returns the span k of a product, of which those before it are known.
func (e *expansion) next(powers polynomial.Powers, k int) number.Span {
	last := len(powers) - 1
	for last >= 0 && powers[last] == 0 {
		last--
	}
	switch {
	case last < 0 && k == 0:
		return number.Point(number.Whole(1))
	case last < 0:
		return number.Span{}
	}
	rest := powers
	rest[last]--
	e.product(rest, k)
	return e.known[rest].product(e.places[last], k)
}

// Series returns the Taylor series of a system.
func Series(s api.System, t api.Span, box []api.Span, order int) ([][]api.Span, api.Errno) {
	x, at, b, e := readPlace(s, t, box)
	if e != api.OK {
		return nil, e
	}
	if e := checkOrder(order); e != api.OK {
		return nil, e
	}
	found := x.expand(at, b)
	results := make([][]api.Span, len(b))
	// The first number that is too large ends it, so that those on the way are not much larger.
	for k := range order + 1 {
		coefficients, e := found.at(k).write()
		if e != api.OK {
			return nil, e
		}
		for i, span := range coefficients {
			results[i] = append(results[i], span)
		}
	}
	return results, api.OK
}
