package polynomial

import (
	"iter"

	"integraph/number"
)

// Compose visits the terms, in their order, of the polynomial that arises from p if t is replaced by with[0],
// and each variable v by with[v].
//
// A power of a sum may have more terms than can be kept, while a few of them show that the result is too large.
// So each term is made when it is asked for, the first one first, and products are expanded only as far as it needs.
func Compose(p Poly, with []Poly) iter.Seq[Term] {
	return func(yield func(Term) bool) {
		c := composer{with: with, known: map[Powers]*stream{}}
		parts := make([]part, len(p))
		for i, t := range p {
			parts[i] = part{by: Term{Factor: t.Factor}, of: c.product(t.Powers)}
		}
		result := merged(parts)
		for i := 0; ; i++ {
			t, ok := result.term(i)
			if !ok || !yield(t) {
				return
			}
		}
	}
}

// composer knows the products of the polynomials of a list that have been needed, by their powers.
type composer struct {
	with  []Poly
	known map[Powers]*stream
}

// product returns the product of the polynomials with these powers.
func (c composer) product(powers Powers) *stream {
	if s, ok := c.known[powers]; ok {
		return s
	}
	s := &stream{found: Poly{{Factor: number.Whole(1)}}, ended: true}
	rest := powers
	for v := range rest {
		if rest[v] > 0 {
			rest[v]--
			s = multiple(c.with[v], c.product(rest))
			break
		}
	}
	c.known[powers] = s
	return s
}

// stream is a polynomial whose terms are found one after another.
type stream struct {
	found Poly
	ended bool
	parts []part
}

// part is a term times a stream: a part of the sum that another stream is.
type part struct {
	by   Term
	of   *stream
	next int    // the number of the term of the stream that has not been used yet
	head Powers // those of its product with by, if it is there
	live bool
}

// multiple returns p times a stream.
func multiple(p Poly, of *stream) *stream {
	parts := make([]part, len(p))
	for i, t := range p {
		parts[i] = part{by: t, of: of}
	}
	return merged(parts)
}

// merged returns the sum of parts.
func merged(parts []part) *stream {
	for i := range parts {
		parts[i].look()
	}
	return &stream{parts: parts}
}

// look finds the head of a part.
func (p *part) look() {
	t, ok := p.of.term(p.next)
	p.live = ok
	if ok {
		p.head = p.by.Powers.Times(t.Powers)
	}
}

// take returns the factor of the head, and goes on to the next one.
func (p *part) take() number.Fraction {
	factor := p.by.Factor.Times(p.of.found[p.next].Factor)
	p.next++
	p.look()
	return factor
}

// term returns the term with a number, if there is one.
func (s *stream) term(i int) (Term, bool) {
	for len(s.found) <= i && !s.ended {
		s.extend()
	}
	if i < len(s.found) {
		return s.found[i], true
	}
	return Term{}, false
}

// extend finds a term more, or that there is none, or only powers whose factors cancel each other.
func (s *stream) extend() {
	first := s.first()
	if first < 0 {
		s.ended = true
		return
	}
	powers := s.parts[first].head
	var sum number.Fraction
	for i := range s.parts {
		if p := &s.parts[i]; p.live && p.head == powers {
			sum = sum.Plus(p.take())
		}
	}
	if sum.Sign() != 0 {
		s.found = append(s.found, Term{powers, sum})
	}
}

// first returns the number of a part whose head stands before those of all others, or -1 if all are used up.
func (s *stream) first() int {
	first := -1
	for i := range s.parts {
		p := &s.parts[i]
		if p.live && (first < 0 || p.head.Compare(s.parts[first].head) < 0) {
			first = i
		}
	}
	return first
}
