package number

// Span is the set of the numbers from Low to High, which is at least Low.
type Span struct {
	Low  Fraction
	High Fraction
}

// Point returns the span of a alone.
func Point(a Fraction) Span { return Span{a, a} }

// Plus returns the span of the sums.
func (s Span) Plus(r Span) Span { return Span{s.Low.Plus(r.Low), s.High.Plus(r.High)} }

// Minus returns the span of the differences.
func (s Span) Minus(r Span) Span { return Span{s.Low.Minus(r.High), s.High.Minus(r.Low)} }

// Times returns the span of the products.
func (s Span) Times(r Span) Span {
	// Signs tell which ends have the least and the greatest product, unless 0 is inside of both.
	switch {
	case s.Low.Sign() < 0 && s.High.Sign() <= 0:
		return s.negative().Times(r).negative()
	case r.Low.Sign() < 0 && r.High.Sign() <= 0:
		return s.Times(r.negative()).negative()
	case s.Low.Sign() >= 0 && r.Low.Sign() >= 0:
		return Span{s.Low.Times(r.Low), s.High.Times(r.High)}
	case s.Low.Sign() >= 0:
		return Span{s.High.Times(r.Low), s.High.Times(r.High)}
	case r.Low.Sign() >= 0:
		return Span{s.Low.Times(r.High), s.High.Times(r.High)}
	}
	below := Point(s.Low.Times(r.High)).Hull(Point(s.High.Times(r.Low)))
	above := Point(s.Low.Times(r.Low)).Hull(Point(s.High.Times(r.High)))
	return Span{below.Low, above.High}
}

// negative returns the span of the opposite numbers.
func (s Span) negative() Span { return Span{s.High.Negative(), s.Low.Negative()} }

// Power returns the span of the powers with the exponent n, which is not negative.
func (s Span) Power(n int) Span {
	low, high := Point(s.Low.Power(n)), Point(s.High.Power(n))
	ends := low.Hull(high)
	if n > 0 && s.Low.Sign() < 0 && s.High.Sign() > 0 {
		return ends.Hull(Span{}) // the span contains 0
	}
	return ends
}

// Hull returns the least span that contains both.
func (s Span) Hull(r Span) Span {
	if r.Low.Compare(s.Low) < 0 {
		s.Low = r.Low
	}
	if r.High.Compare(s.High) > 0 {
		s.High = r.High
	}
	return s
}

// Within reports whether all numbers of s are in r.
func (s Span) Within(r Span) bool {
	return r.Low.Compare(s.Low) <= 0 && s.High.Compare(r.High) <= 0
}

// Common returns the span of the numbers that are in both, and whether there are any.
func (s Span) Common(r Span) (Span, bool) {
	if r.Low.Compare(s.Low) > 0 {
		s.Low = r.Low
	}
	if r.High.Compare(s.High) < 0 {
		s.High = r.High
	}
	if s.Low.Compare(s.High) > 0 {
		return Span{}, false
	}
	return s, true
}

// Width returns the difference of the ends.
func (s Span) Width() Fraction { return s.High.Minus(s.Low) }

// Largest returns the greatest absolute value in the span.
func (s Span) Largest() Fraction {
	low, high := s.Low.Size(), s.High.Size()
	if low.Compare(high) > 0 {
		return low
	}
	return high
}

// Outward returns the least span with ends that are multiples of 1 / 2^bits and that contains s.
func (s Span) Outward(bits int) Span { return Span{s.Low.Down(bits), s.High.Up(bits)} }
