package enclose

import (
	"integraph/api"
	"integraph/limits"
	"integraph/number"
)

// mostTrials is how many boxes are tried for a step at most.
const mostTrials = 12

// step is a step from a time, where the solutions are in a box, to a later time.
type step struct {
	from  number.Fraction
	begin spans
	to    number.Fraction
}

// time returns the span of the times of a step.
func (p step) time() number.Span { return number.Span{Low: p.from, High: p.to} }

// length returns the time that a step takes.
func (p step) length() number.Fraction { return p.to.Minus(p.from) }

// moved returns where the solutions are during a step, if their rates are those on a box.
func (x system) moved(p step, box spans) spans {
	times := number.Span{High: p.length()}
	return p.begin.joined(x.values(p.time(), box), func(begin, rate number.Span) number.Span {
		return begin.Plus(times.Times(rate))
	})
}

// isGood reports whether a box is good for a step.
func (x system) isGood(p step, whole spans) bool { return x.moved(p, whole).within(whole) }

// trial returns the trial box of a step, and whether there is one.
func (x system) trial(p step, bits int) (spans, bool) {
	unit := number.Whole(1).Over(number.Whole(2).Power(bits))
	wider := func(tried, next number.Span) number.Span {
		hull := tried.Hull(next)
		more := hull.Width().Over(number.Whole(4)).Plus(unit)
		return hull.Plus(number.Span{Low: more.Negative(), High: more})
	}
	tried := p.begin.joined(x.moved(p, p.begin), number.Span.Hull).outward(bits)
trials:
	for range mostTrials {
		for _, span := range tried {
			if !span.Low.Fits(api.MaxDigits) || !span.High.Fits(api.MaxDigits) {
				break trials
			}
		}
		next := x.moved(p, tried)
		if next.within(tried) {
			return next.outward(bits), true
		}
		tried = tried.joined(next, wider).outward(bits)
	}
	return nil, false
}

// taylor returns the Taylor box of a step with a box for the whole step.
func (x system) taylor(p step, whole spans, order int) spans {
	near, far := x.expand(number.Point(p.from), p.begin), x.expand(p.time(), whole)
	power := number.Whole(1)
	add := func(sum, coefficient number.Span) number.Span {
		return sum.Plus(coefficient.Times(number.Point(power)))
	}
	sum := make(spans, len(whole))
	for k := range order + 1 {
		sum = sum.joined(near.at(k), add)
		power = power.Times(p.length())
	}
	return sum.joined(far.at(order+1), add)
}

// enclosed returns the part of a tube for a step: the trial box, and the Taylor box with it, rounded outwards. It
// reports whether there is a trial box.
func (x system) enclosed(p step, order, bits int) (part, bool) {
	whole, ok := x.trial(p, bits)
	if !ok {
		return part{}, false
	}
	return part{p.to, whole, x.taylor(p, whole, order).outward(bits)}, true
}

// readStep returns the values of a system and of a step, which may not lead to a later time, or the first error.
func readStep(s api.System, from api.Rat, box []api.Span, to api.Rat) (system, step, api.Errno) {
	x, e := readSystem(s)
	if e != api.OK {
		return system{}, step{}, e
	}
	var p step
	if p.from, e = limits.ReadRat(from); e != api.OK {
		return system{}, step{}, e
	}
	if p.begin, e = readSpans(box, len(x.rates)); e != api.OK {
		return system{}, step{}, e
	}
	p.to, e = limits.ReadRat(to)
	return x, p, e
}

// check returns ErrOrder if a step does not lead to a later time, or OK.
func (p step) check() api.Errno {
	if p.to.Compare(p.from) <= 0 {
		return api.ErrOrder
	}
	return api.OK
}

// firstError returns the first one of errors, or OK.
func firstError(errors ...api.Errno) api.Errno {
	for _, e := range errors {
		if e != api.OK {
			return e
		}
	}
	return api.OK
}

// Picard returns a box that contains the solutions during a step.
func Picard(s api.System, from api.Rat, box []api.Span, to api.Rat, bits int) ([]api.Span, api.Errno) {
	x, p, e := readStep(s, from, box, to)
	if e := firstError(e, checkBits(bits), p.check()); e != api.OK {
		return nil, e
	}
	whole, ok := x.trial(p, bits)
	if !ok {
		return nil, api.ErrStep
	}
	return whole.write()
}

// IsGood reports whether a box surely contains the solutions during a step.
func IsGood(s api.System, from api.Rat, box []api.Span, to api.Rat, whole []api.Span) (bool, api.Errno) {
	x, p, e := readStep(s, from, box, to)
	if e != api.OK {
		return false, e
	}
	w, e := readSpans(whole, len(x.rates))
	if e := firstError(e, p.check()); e != api.OK {
		return false, e
	}
	return x.isGood(p, w), api.OK
}

// Taylor returns the Taylor box of a step.
func Taylor(s api.System, from api.Rat, box []api.Span, to api.Rat, whole []api.Span, order int) ([]api.Span, api.Errno) {
	x, p, e := readStep(s, from, box, to)
	if e != api.OK {
		return nil, e
	}
	w, e := readSpans(whole, len(x.rates))
	if e := firstError(e, checkOrder(order), p.check()); e != api.OK {
		return nil, e
	}
	return x.taylor(p, w, order).write()
}

// Step returns the boxes of a step.
func Step(s api.System, from api.Rat, box []api.Span, to api.Rat, order, bits int) (api.Box, api.Errno) {
	x, p, e := readStep(s, from, box, to)
	if e := firstError(e, checkOrder(order), checkBits(bits), p.check()); e != api.OK {
		return api.Box{}, e
	}
	found, ok := x.enclosed(p, order, bits)
	if !ok {
		return api.Box{}, api.ErrStep
	}
	return found.write()
}
