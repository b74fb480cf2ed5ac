package scale

import (
	"sort"

	"integraph/api"
	"integraph/exact"
	"integraph/limits"
	"integraph/number"
	"integraph/plan"
)

// Exponent returns the greatest exponent of a power of 2 that is at most a.
func Exponent(a api.Rat) (int, api.Errno) {
	x, e := limits.ReadPositive(a)
	if e != api.OK {
		return 0, e
	}
	return exponent(x), api.OK
}

// exponent returns the greatest exponent of a power of 2 that is at most a, which is above 0.
func exponent(a number.Fraction) int {
	one, two := number.Whole(1), number.Whole(2)
	isReached := func(e int) bool {
		if e < 0 {
			return one.Compare(a.Times(two.Power(-e))) <= 0
		}
		return two.Power(e).Compare(a) <= 0
	}
	double := func(e int, while bool) int {
		for isReached(e) == while {
			e *= 2
		}
		return e
	}
	low, high := double(-1, false), double(1, true)
	return low + sort.Search(high-low-1, func(i int) bool { return !isReached(low + i + 1) })
}

// Ranges returns the range of each shaft over a box.
func Ranges(p api.Plan, box []api.Span) ([]api.Span, api.Errno) {
	integrators, e := plan.Integrators(p)
	if e != api.OK {
		return nil, e
	}
	if _, e := readRanges(box, integrators+1); e != api.OK {
		return nil, e
	}
	_, shafts, e := plan.Read(p)
	if e != api.OK {
		return nil, e
	}
	return limits.All(shafts, func(shaft api.Poly) (api.Span, api.Errno) { return exact.EvalSpans(shaft, box) })
}

// Largest returns the greatest absolute value in a span.
func Largest(s api.Span) (api.Rat, api.Errno) {
	x, e := limits.ReadSpan(s)
	if e != api.OK {
		return "", e
	}
	return limits.WriteRat(x.Largest())
}

// bounds has the limits of the exponents of a plan.
type bounds struct {
	shafts []int
	units  []unit
	tables int // how many of the units are tables
}

// unit is a unit of a plan with what its conditions depend on.
type unit struct {
	api.Unit
	api.Bench
	kind
	most []int // the limits of the exponents of its inputs
	own  int   // the number of the input of a table in the conditions
}

// Limits returns the greatest exponents of shafts and inputs.
func Limits(p api.Plan, ranges []api.Span, b api.Bench) ([]int, [][]int, api.Errno) {
	x, e := readBounds(p, ranges, b)
	if e != api.OK {
		return nil, nil, e
	}
	inputs := make([][]int, len(x.units))
	for i, u := range x.units {
		inputs[i] = u.most
	}
	return x.shafts, inputs, api.OK
}

// readBounds returns the limits of the exponents of a plan, or the first error of the arguments.
func readBounds(p api.Plan, ranges []api.Span, b api.Bench) (bounds, api.Errno) {
	ratios, e := readPlan(p)
	if e != api.OK {
		return bounds{}, e
	}
	spans, e := readRanges(ranges, p.Shafts)
	if e != api.OK {
		return bounds{}, e
	}
	if e := CheckBench(b); e != api.OK {
		return bounds{}, e
	}
	var x bounds
	twos := newPowers()
	for _, span := range spans {
		x.shafts = append(x.shafts, limit(twos.of(b.Shaft), span.Largest()))
	}
	known := kinds()
	for i, u := range p.Units {
		y := unit{Unit: u, Bench: b, kind: known[u.Kind], own: p.Shafts + x.tables}
		if len(u.Curve) > 0 { // only tables have one
			x.tables++
		}
		for j, f := range u.Feeds {
			turns := twos.of(b.Shaft)
			if y.hasDisc && j == 0 {
				turns = twos.of(b.Disc)
			}
			y.most = append(y.most, limit(turns, spans[f.Shaft].Largest().Times(ratios[i][j].Size())))
		}
		x.units = append(x.units, y)
	}
	return x, api.OK
}

// limit returns the greatest exponent up to MaxExponent of a power of 2 whose product with a largest number is at most
// so many turns.
func limit(turns, largest number.Fraction) int {
	if largest.Sign() == 0 {
		return api.MaxExponent
	}
	return min(exponent(turns.Over(largest)), api.MaxExponent)
}

// Turns returns the ranges of the shafts in turns.
func Turns(p api.Plan, ranges []api.Span, s api.Setup) ([]api.Span, api.Errno) {
	if e := plan.CheckPlan(p); e != api.OK {
		return nil, e
	}
	spans, e := readRanges(ranges, p.Shafts)
	if e != api.OK {
		return nil, e
	}
	if e := checkExponents(p, s); e != api.OK {
		return nil, e
	}
	twos := newPowers()
	for i, span := range spans {
		spans[i] = span.Times(number.Point(twos.of(s.Shafts[i])))
	}
	return limits.All(spans, limits.WriteSpan)
}

// Slack returns what part of its limit each shaft does not use.
func Slack(p api.Plan, ranges []api.Span, b api.Bench, s api.Setup) ([]api.Rat, api.Errno) {
	if e := CheckSetup(p, ranges, b, s); e != api.OK {
		return nil, e
	}
	spans, e := readRanges(ranges, p.Shafts)
	if e != api.OK {
		return nil, e
	}
	twos := newPowers()
	slack := make([]number.Fraction, p.Shafts)
	for i, span := range spans {
		if size := span.Largest(); size.Sign() != 0 {
			slack[i] = twos.of(b.Shaft).Over(twos.of(s.Shafts[i]).Times(size))
		}
	}
	return limits.All(slack, limits.WriteRat)
}
