package polynomial

import (
	"iter"

	"integraph/number"
)

// Compose visits the terms, in their order, of the polynomial that arises from p if t is replaced by with[0],
// and each variable v by with[v].
func Compose(p Poly, with []Poly) iter.Seq[Term] {
	return func(yield func(Term) bool) {
		c := composer{with: with, known: map[Powers]*Stream{}}
		factors, of := make([]number.Fraction, len(p)), make([]*Stream, len(p))
		for i, t := range p {
			factors[i], of[i] = t.Factor, c.product(t.Powers)
		}
		Combination(factors, of).Terms()(yield)
	}
}

// composer knows the products of the polynomials of a list that have been needed, by their powers.
type composer struct {
	with  []Poly
	known map[Powers]*Stream
}

// product returns the product of the polynomials with these powers.
func (c composer) product(powers Powers) *Stream {
	if s, ok := c.known[powers]; ok {
		return s
	}
	s := Known(Single(number.Whole(1), Powers{}))
	rest := powers
	for v := range rest {
		if rest[v] > 0 {
			rest[v]--
			s = Product(Known(c.with[v]), c.product(rest))
			break
		}
	}
	c.known[powers] = s
	return s
}
