package scale

import (
	"slices"

	"integraph/api"
	"integraph/limits"
	"integraph/number"
	"integraph/plan"
)

// scales are what the positions of shafts and the values of inputs are multiplied by.
type scales struct {
	shafts []number.Fraction
	inputs [][]number.Fraction
}

// scalesOf returns the turns for a unit in a set-up.
func scalesOf(s api.Setup) scales {
	twos := newPowers()
	turns := func(exponents []int) []number.Fraction {
		list := make([]number.Fraction, len(exponents))
		for i, e := range exponents {
			list[i] = twos.of(e)
		}
		return list
	}
	x := scales{shafts: turns(s.Shafts)}
	for _, exponents := range s.Inputs {
		x.inputs = append(x.inputs, turns(exponents))
	}
	return x
}

// gears returns what the ratios of a unit, whose inputs have some scales, are multiplied by.
func (x scales) gears(u api.Unit, inputs []number.Fraction) []number.Fraction {
	gears := make([]number.Fraction, len(inputs))
	for i, f := range u.Feeds {
		gears[i] = inputs[i].Over(x.shafts[f.Shaft])
	}
	return gears
}

// remade is a plan that is made anew: its shafts have the positions of another plan, times their scales.
type remade struct {
	api.Plan
	scales
	e api.Errno // of its first number that is too large
}

// remake returns a plan with the numbers that its scales ask for, or ErrLarge.
func remake(p api.Plan, x scales) (api.Plan, api.Errno) {
	r := remade{Plan: api.Plan{Shafts: p.Shafts, Outputs: slices.Clone(p.Outputs)}, scales: x}
	for i, u := range p.Units {
		r.Units = append(r.Units, r.unit(u, r.inputs[i]))
	}
	if r.e != api.OK {
		return api.Plan{}, r.e
	}
	return r.Plan, api.OK
}

// unit returns a unit with other numbers; its inputs have some scales.
func (r *remade) unit(u api.Unit, inputs []number.Fraction) api.Unit {
	shaft := r.shafts[u.Out]
	u.Start = r.times(u.Start, shaft)
	u.Feeds, u.Curve = slices.Clone(u.Feeds), slices.Clone(u.Curve)
	for i, gear := range r.gears(u, inputs) {
		u.Feeds[i].Ratio = r.times(u.Feeds[i].Ratio, gear)
	}
	for i, c := range u.Curve {
		u.Curve[i] = r.times(c, shaft.Over(inputs[0].Power(i)))
	}
	return u
}

// times returns a number times a factor, or keeps the error of it.
func (r *remade) times(a api.Rat, factor number.Fraction) api.Rat {
	x, e := limits.ReadRat(a)
	if e == api.OK {
		a, e = limits.WriteRat(x.Times(factor))
	}
	if r.e == api.OK {
		r.e = e
	}
	return a
}

// Scaled returns the plan whose positions are multiplied by factors.
func Scaled(p api.Plan, factors []api.Rat) (api.Plan, api.Errno) {
	if e := plan.CheckPlan(p); e != api.OK {
		return api.Plan{}, e
	}
	shafts, e := readFactors(factors, p.Shafts)
	if e != api.OK {
		return api.Plan{}, e
	}
	x := scales{shafts: shafts}
	known := kinds()
	for _, u := range p.Units {
		x.inputs = append(x.inputs, known[u.Kind].scales(u, shafts))
	}
	return remake(p, x)
}

// readFactors returns the values of factors for some shafts, or their first error.
func readFactors(factors []api.Rat, shafts int) ([]number.Fraction, api.Errno) {
	if len(factors) != shafts {
		return nil, api.ErrShape
	}
	values, e := limits.All(factors, func(a api.Rat) (number.Fraction, api.Errno) {
		x, e := limits.ReadRat(a)
		if e == api.OK && x.Sign() == 0 {
			e = api.ErrZero
		}
		return x, e
	})
	if e != api.OK {
		return nil, e
	}
	if values[0].Compare(number.Whole(1)) != 0 {
		return nil, api.ErrRange
	}
	return values, api.OK
}

// variableAsItIs returns the scales of the inputs of an integrator whose second ratio stays as it is.
func variableAsItIs(u api.Unit, shafts []number.Fraction) []number.Fraction {
	variable := shafts[u.Feeds[1].Shaft]
	return []number.Fraction{shafts[u.Out].Over(variable), variable}
}

// equalScales returns the scales of the inputs of an adder, which are that of its shaft.
func equalScales(u api.Unit, shafts []number.Fraction) []number.Fraction {
	return slices.Repeat([]number.Fraction{shafts[u.Out]}, len(u.Feeds))
}

// plainScales returns the scale of the input of a table, whose curve keeps its argument.
func plainScales(api.Unit, []number.Fraction) []number.Fraction {
	return []number.Fraction{number.Whole(1)}
}

// Geared returns the plan in turns.
func Geared(p api.Plan, b api.Bench, s api.Setup) (api.Plan, api.Errno) {
	if e := plan.CheckPlan(p); e != api.OK {
		return api.Plan{}, e
	}
	if e := CheckBench(b); e != api.OK {
		return api.Plan{}, e
	}
	if e := checkExponents(p, s); e != api.OK {
		return api.Plan{}, e
	}
	if !areAgreed(p, b, s) {
		return api.Plan{}, api.ErrConflict
	}
	x := scalesOf(s)
	known, constant := kinds(), newPowers().of(b.Constant)
	for i, u := range p.Units {
		if known[u.Kind].hasDisc {
			x.inputs[i][0] = x.inputs[i][0].Over(constant)
		}
	}
	return remake(p, x)
}
