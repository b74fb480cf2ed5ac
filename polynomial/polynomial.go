// Package polynomial has polynomials of any number of terms with factors of any size. The limits of the layers
// are not its matter: polynomials on the way to a result have none.
package polynomial

import (
	"iter"
	"slices"

	"integraph/api"
	"integraph/number"
)

// MostDegree is the greatest sum of powers.
const MostDegree = 255

// Powers are the powers of t and of the variables in a term, t first; their sum is at most MostDegree.
type Powers [api.MaxVars + 1]uint8

// Term is a term of a polynomial.
type Term struct {
	Powers Powers
	Factor number.Fraction
}

// Poly is a polynomial: terms with different powers and factors that are not 0, in the order of Compare.
// It is immutable.
type Poly []Term

// Sum has the factor of each list of powers of a polynomial that is being collected; some may be 0.
type Sum map[Powers]number.Fraction

// Degree returns the sum of the powers.
func (a Powers) Degree() int {
	sum := 0
	for _, power := range a {
		sum += int(power)
	}
	return sum
}

// Times returns the powers of the product.
func (a Powers) Times(b Powers) Powers {
	for i, power := range b {
		a[i] += power
	}
	return a
}

// Compare returns a negative number if a stands before b: if its sum is greater, or, of equal sums, if it is
// lexicographically greater; 0 if they are equal; and otherwise a positive number.
func (a Powers) Compare(b Powers) int {
	sums, first := 0, 0
	for i := range a {
		difference := int(b[i]) - int(a[i])
		sums += difference
		if first == 0 {
			first = difference
		}
	}
	if sums != 0 {
		return sums
	}
	return first
}

// Raised returns the powers of a variable to the power n; the variable 0 is t.
func Raised(v, n int) Powers {
	var powers Powers
	powers[v] = uint8(n)
	return powers
}

// Single returns a factor, which is not 0, times a product of powers.
func Single(factor number.Fraction, powers Powers) Poly {
	return Poly{{Powers: powers, Factor: factor}}
}

// Add adds a term.
func (s Sum) Add(t Term) { s[t.Powers] = s[t.Powers].Plus(t.Factor) }

// Poly returns the polynomial that has been collected.
func (s Sum) Poly() Poly {
	p := make(Poly, 0, len(s))
	for powers, factor := range s {
		if factor.Sign() != 0 {
			p = append(p, Term{powers, factor})
		}
	}
	slices.SortFunc(p, func(a, b Term) int { return a.Powers.Compare(b.Powers) })
	return p
}

// Collect returns the sum of terms.
func Collect(terms iter.Seq[Term]) Poly {
	sum := Sum{}
	for t := range terms {
		sum.Add(t)
	}
	return sum.Poly()
}

// Products visits the products of each term of p with each one of q.
func Products(p, q Poly) iter.Seq[Term] {
	return func(yield func(Term) bool) {
		for _, a := range p {
			for _, b := range q {
				if !yield(Term{a.Powers.Times(b.Powers), a.Factor.Times(b.Factor)}) {
					return
				}
			}
		}
	}
}

// Plus returns p + q.
func (p Poly) Plus(q Poly) Poly { return Collect(slices.Values(slices.Concat(p, q))) }

// Times returns p q.
func (p Poly) Times(q Poly) Poly { return Collect(Products(p, q)) }

// Scaled returns c p.
func (p Poly) Scaled(c number.Fraction) Poly { return Poly{{Factor: c}}.Times(p) }

// Derivative returns the derivative with respect to the variable v; 0 is t.
func (p Poly) Derivative(v int) Poly {
	sum := Sum{}
	for _, t := range p {
		if n := t.Powers[v]; n > 0 {
			t.Powers[v]--
			sum.Add(Term{t.Powers, t.Factor.Times(number.Whole(int(n)))})
		}
	}
	return sum.Poly()
}

// Along returns the derivative with respect to t, where the variables have some rates; further ones have none.
func (p Poly) Along(rates []Poly) Poly {
	sum := Sum{}
	for _, t := range p.Derivative(0) {
		sum.Add(t)
	}
	for v, rate := range rates {
		for t := range Products(p.Derivative(v+1), rate) {
			sum.Add(t)
		}
	}
	return sum.Poly()
}

// Value returns the value where t and the variables are the numbers of a point.
func (p Poly) Value(point []number.Fraction) number.Fraction {
	var sum number.Fraction
	for _, t := range p {
		product := t.Factor
		for i, a := range point {
			if n := int(t.Powers[i]); n > 0 {
				product = product.Times(a.Power(n))
			}
		}
		sum = sum.Plus(product)
	}
	return sum
}

// Extension returns the sum of the spans of the terms, where t and the variables are in the spans of a box.
func (p Poly) Extension(box []number.Span) number.Span {
	var sum number.Span
	for _, t := range p {
		product := number.Point(t.Factor)
		for i, s := range box {
			if n := int(t.Powers[i]); n > 0 {
				product = product.Times(s.Power(n))
			}
		}
		sum = sum.Plus(product)
	}
	return sum
}
