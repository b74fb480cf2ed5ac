package enclose

import (
	"slices"

	"integraph/api"
	"integraph/generate"
	"integraph/limits"
	"integraph/number"
)

// part is a box of a tube: where the solutions are during its step, and at its end.
type part struct {
	end         number.Fraction
	whole, last spans
}

// write returns the texts of a box of a tube, or ErrLarge.
func (b part) write() (api.Box, api.Errno) {
	end, e := limits.WriteRat(b.end)
	if e != api.OK {
		return api.Box{}, e
	}
	whole, e := b.whole.write()
	if e != api.OK {
		return api.Box{}, e
	}
	last, e := b.last.write()
	if e != api.OK {
		return api.Box{}, e
	}
	return api.Box{End: end, Whole: whole, Last: last}, api.OK
}

// ascending returns what reads the ends of steps, one after another, from 0 on.
func ascending() func(end api.Rat) (number.Fraction, api.Errno) {
	var before number.Fraction
	return func(text api.Rat) (number.Fraction, api.Errno) {
		end, e := limits.ReadRat(text)
		if e != api.OK {
			return number.Fraction{}, e
		}
		if end.Compare(before) <= 0 {
			return number.Fraction{}, api.ErrOrder
		}
		before = end
		return end, api.OK
	}
}

// readTube returns the values of a tube for n variables, or its first error.
func readTube(tube []api.Box, n int) ([]part, api.Errno) {
	if len(tube) > api.MaxSteps {
		return nil, api.ErrMany
	}
	readEnd := ascending()
	return limits.All(tube, func(b api.Box) (part, api.Errno) {
		end, e := readEnd(b.End)
		if e != api.OK {
			return part{}, e
		}
		whole, e := readSpans(b.Whole, n)
		if e != api.OK {
			return part{}, e
		}
		last, e := readSpans(b.Last, n)
		return part{end, whole, last}, e
	})
}

// readSystemAndTube returns the values of a system and of a tube, or the first error.
func readSystemAndTube(s api.System, tube []api.Box) (system, []part, api.Errno) {
	x, e := readSystem(s)
	if e != api.OK {
		return system{}, nil, e
	}
	parts, e := readTube(tube, len(x.rates))
	return x, parts, e
}

// Grid returns the ends of equal steps.
func Grid(end api.Rat, n int) ([]api.Rat, api.Errno) {
	x, e := limits.ReadPositive(end)
	if e != api.OK {
		return nil, e
	}
	if n < 1 || n > api.MaxSteps {
		return nil, api.ErrRange
	}
	ends := make([]number.Fraction, n)
	for i := range ends {
		ends[i] = x.Times(number.Whole(i + 1)).Over(number.Whole(n))
	}
	return limits.All(ends, limits.WriteRat)
}

// Tube returns the boxes of steps from the beginning on.
func Tube(s api.System, ends []api.Rat, order, bits int) ([]api.Box, api.Errno) {
	x, e := readSystem(s)
	if e != api.OK {
		return nil, e
	}
	if len(ends) > api.MaxSteps {
		return nil, api.ErrMany
	}
	times, e := limits.All(ends, ascending())
	if e := firstError(e, checkOrder(order), checkBits(bits)); e != api.OK {
		return nil, e
	}
	// A step that has no trial box comes before all numbers that are too large, also those of earlier steps.
	parts, e := x.tube(times, order, bits)
	if e != api.OK {
		return nil, e
	}
	return limits.All(parts, part.write)
}

// tube returns the boxes of steps from the beginning on, or ErrStep.
func (x system) tube(ends []number.Fraction, order, bits int) ([]part, api.Errno) {
	p := step{begin: x.start}
	return limits.All(ends, func(end number.Fraction) (part, api.Errno) {
		p.to = end
		found, ok := x.enclosed(p, order, bits)
		if !ok {
			return part{}, api.ErrStep
		}
		p = step{from: end, begin: found.last}
		return found, api.OK
	})
}

// CheckTube returns OK if boxes surely contain the solutions.
func CheckTube(s api.System, tube []api.Box, order int) api.Errno {
	x, parts, e := readSystemAndTube(s, tube)
	if e := firstError(e, checkOrder(order)); e != api.OK {
		return e
	}
	p := step{begin: x.start}
	for _, b := range parts {
		p.to = b.end
		if !x.isGood(p, b.whole) || !x.taylor(p, b.whole, order).within(b.last) {
			return api.ErrProof
		}
		p = step{from: b.end, begin: b.last}
	}
	return api.OK
}

// At returns a box that contains the solutions at a time.
func At(s api.System, tube []api.Box, t api.Rat) ([]api.Span, api.Errno) {
	_, parts, e := readSystemAndTube(s, tube)
	if e != api.OK {
		return nil, e
	}
	time, e := limits.ReadRat(t)
	if e != api.OK {
		return nil, e
	}
	switch {
	case time.Sign() < 0:
		return nil, api.ErrRange
	case time.Sign() == 0:
		return slices.Clone(s.Start), api.OK
	}
	for i, b := range parts {
		switch time.Compare(b.end) {
		case -1:
			return slices.Clone(tube[i].Whole), api.OK
		case 0:
			return slices.Clone(tube[i].Last), api.OK
		}
	}
	return nil, api.ErrRange
}

// Range returns a box that contains the solutions all the time.
func Range(s api.System, tube []api.Box) ([]api.Span, api.Errno) {
	x, parts, e := readSystemAndTube(s, tube)
	if e != api.OK {
		return nil, e
	}
	hull := x.start
	for _, b := range parts {
		hull = hull.joined(b.whole, number.Span.Hull).joined(b.last, number.Span.Hull)
	}
	return hull.write()
}

// Widths returns the greatest width at the end of each step.
func Widths(s api.System, tube []api.Box) ([]api.Rat, api.Errno) {
	_, parts, e := readSystemAndTube(s, tube)
	if e != api.OK {
		return nil, e
	}
	return limits.All(parts, func(b part) (api.Rat, api.Errno) {
		var widths []number.Fraction
		for _, span := range b.last {
			widths = append(widths, span.Width())
		}
		return limits.WriteRat(greatest(widths[0], widths[1:]...))
	})
}

// Meet returns what two tubes have in common.
func Meet(s api.System, a, b []api.Box) ([]api.Box, api.Errno) {
	x, first, e := readSystemAndTube(s, a)
	if e != api.OK {
		return nil, e
	}
	second, e := readTube(b, len(x.rates))
	if e != api.OK {
		return nil, e
	}
	if len(first) != len(second) {
		return nil, api.ErrShape
	}
	for i := range a {
		if a[i].End != b[i].End {
			return nil, api.ErrOrder
		}
	}
	for i, other := range second {
		var isWhole, isLast bool
		first[i].whole, isWhole = first[i].whole.common(other.whole)
		first[i].last, isLast = first[i].last.common(other.last)
		if !isWhole || !isLast {
			return nil, api.ErrConflict
		}
	}
	return limits.All(first, part.write)
}

// Keeps reports whether a first integral is kept by a tube.
func Keeps(s api.System, p api.Poly, tube []api.Box) (bool, api.Errno) {
	x, e := readSystem(s)
	if e != api.OK {
		return false, e
	}
	q, e := limits.ReadPoly(p, len(x.rates))
	if e != api.OK {
		return false, e
	}
	parts, e := readTube(tube, len(x.rates))
	if e != api.OK {
		return false, e
	}
	isIntegral, e := generate.IsIntegral(s, p)
	if e != api.OK {
		return false, e
	}
	if !isIntegral {
		return false, api.ErrNone
	}
	start := value(q, number.Span{}, x.start)
	for _, b := range parts {
		if _, isKept := start.Common(value(q, number.Point(b.end), b.last)); !isKept {
			return false, api.OK
		}
	}
	return true, api.OK
}
