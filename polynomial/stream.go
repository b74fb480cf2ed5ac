package polynomial

import (
	"iter"

	"integraph/number"
)

// Stream is a polynomial whose terms are found one after another, the first one first, when they are asked for.
//
// A power of a sum may have more terms than can be kept, while a few of them show that the result is too large.
// So each term is made when it is asked for, and products are expanded only as far as it needs.
type Stream struct {
	found       Poly
	ended       bool
	parts       []part
	left, right *Stream // of a product: parts are the first terms of left, each times right
}

// part is a term times a stream: a part of the sum that another stream is.
type part struct {
	by   Term
	of   *Stream
	next int    // the number of the term of the stream that has not been used yet
	head Powers // those of its product with by, if it is there
	live bool
}

// Known returns the stream of the terms of p.
func Known(p Poly) *Stream { return &Stream{found: p, ended: true} }

// Combination returns the sum of streams, each times its factor.
func Combination(factors []number.Fraction, of []*Stream) *Stream {
	s := &Stream{}
	for i, factor := range factors {
		if factor.Sign() != 0 {
			s.parts = append(s.parts, newPart(Term{Factor: factor}, of[i]))
		}
	}
	return s
}

// Product returns the product of two streams.
func Product(left, right *Stream) *Stream { return &Stream{left: left, right: right} }

// Terms visits the terms in their order.
func (s *Stream) Terms() iter.Seq[Term] {
	return func(yield func(Term) bool) {
		for i := 0; ; i++ {
			t, ok := s.term(i)
			if !ok || !yield(t) {
				return
			}
		}
	}
}

// Poly returns the polynomial with all terms.
func (s *Stream) Poly() Poly {
	var p Poly
	for t := range s.Terms() {
		p = append(p, t)
	}
	return p
}

// Degree returns the greatest sum of powers of a term, or -1 if there are none.
func (s *Stream) Degree() int {
	t, ok := s.term(0)
	if !ok {
		return -1
	}
	return t.Powers.Degree()
}

func newPart(by Term, of *Stream) part {
	p := part{by: by, of: of}
	p.look()
	return p
}

// look finds the head of a part.
func (p *part) look() {
	t, ok := p.of.term(p.next)
	p.live = ok
	if ok {
		p.head = p.by.Powers.Times(t.Powers)
	}
}

// take returns the factor of the head, and goes on to the next one.
func (p *part) take() number.Fraction {
	factor := p.by.Factor.Times(p.of.found[p.next].Factor)
	p.next++
	p.look()
	return factor
}

// term returns the term with a number, if there is one.
func (s *Stream) term(i int) (Term, bool) {
	for len(s.found) <= i && !s.ended {
		s.extend()
	}
	if i < len(s.found) {
		return s.found[i], true
	}
	return Term{}, false
}

// extend finds a term more, or that there is none, or only powers whose factors cancel each other.
func (s *Stream) extend() {
	s.open()
	first := s.first()
	if first < 0 {
		s.ended = true
		return
	}
	powers := s.parts[first].head
	var sum number.Fraction
	for i := range s.parts {
		if p := &s.parts[i]; p.live && p.head == powers {
			sum = sum.Plus(p.take())
		}
	}
	if sum.Sign() != 0 {
		s.found = append(s.found, Term{powers, sum})
	}
}

// open makes parts of further terms of the left factor of a product: of a term only when the first product of the
// one before it, which stands before all of its own, has been used.
func (s *Stream) open() {
	for s.left != nil && (len(s.parts) == 0 || s.parts[len(s.parts)-1].next > 0) {
		t, ok := s.left.term(len(s.parts))
		if !ok {
			s.left = nil
			return
		}
		s.parts = append(s.parts, newPart(t, s.right))
	}
}

// first returns the number of a part whose head stands before those of all others, or -1 if all are used up.
func (s *Stream) first() int {
	first := -1
	for i := range s.parts {
		p := &s.parts[i]
		if p.live && (first < 0 || p.head.Compare(s.parts[first].head) < 0) {
			first = i
		}
	}
	return first
}
