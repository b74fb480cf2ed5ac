package scale

import (
	"slices"

	"integraph/api"
	"integraph/limits"
	"integraph/number"
)

// CheckSetup returns OK for a set-up within all limits.
func CheckSetup(p api.Plan, ranges []api.Span, b api.Bench, s api.Setup) api.Errno {
	x, e := readBounds(p, ranges, b)
	if e != api.OK {
		return e
	}
	if e := checkExponents(p, s); e != api.OK {
		return e
	}
	if x.isExceeded(s) {
		return api.ErrLarge
	}
	if !areAgreed(p, b, s) {
		return api.ErrConflict
	}
	if exceedsGear(p, b, s) {
		return api.ErrInfeasible
	}
	return api.OK
}

// isExceeded reports whether an exponent of a set-up is above its limit.
func (b bounds) isExceeded(s api.Setup) bool {
	isAbove := func(exponents, most []int) bool {
		for i, e := range exponents {
			if e > most[i] {
				return true
			}
		}
		return false
	}
	for i, u := range b.units {
		if isAbove(s.Inputs[i], u.most) {
			return true
		}
	}
	return isAbove(s.Shafts, b.shafts)
}

// areAgreed reports whether the exponents of each unit in a set-up satisfy the equations of its kind.
func areAgreed(p api.Plan, b api.Bench, s api.Setup) bool {
	known := kinds()
	for i, u := range p.Units {
		if !known[u.Kind].agrees(b.Constant, s.Shafts[u.Out], s.Inputs[i]) {
			return false
		}
	}
	return true
}

// isProduct reports whether an integrator turns its shaft as its inputs say.
func isProduct(constant, shaft int, inputs []int) bool { return inputs[0]+inputs[1]-constant == shaft }

// areAlike reports whether the inputs of an adder and its shaft have the same exponent.
func areAlike(_, shaft int, inputs []int) bool {
	return !slices.ContainsFunc(inputs, func(e int) bool { return e != shaft })
}

// always reports true: a table can be drawn for each pair of exponents.
func always(_, _ int, _ []int) bool { return true }

// exceedsGear reports whether a gear in a set-up is above the limit.
func exceedsGear(p api.Plan, b api.Bench, s api.Setup) bool {
	for i, u := range p.Units {
		for j, f := range u.Feeds {
			gear := s.Inputs[i][j] - s.Shafts[f.Shaft]
			if max(gear, -gear) > b.Gear {
				return true
			}
		}
	}
	return false
}

// Best returns the greatest set-up.
func Best(p api.Plan, ranges []api.Span, b api.Bench) (api.Setup, api.Errno) {
	x, e := readBounds(p, ranges, b)
	if e != api.OK {
		return api.Setup{}, e
	}
	exponents, circle := x.relax()
	if circle != nil {
		return api.Setup{}, api.ErrInfeasible
	}
	s := api.Setup{Shafts: slices.Clone(exponents[:p.Shafts])}
	for _, u := range x.units {
		s.Inputs = append(s.Inputs, u.inputs(u, exponents))
	}
	return s, api.OK
}

// discAndRest returns the exponents of an integrator: the limit of its disc, and what is left for the second input.
func discAndRest(u unit, exponents []int) []int {
	return []int{u.most[0], exponents[u.Out] - u.more()}
}

// likeShaft returns the exponents of an adder, which are that of its shaft.
func likeShaft(u unit, exponents []int) []int {
	return slices.Repeat([]int{exponents[u.Out]}, len(u.Feeds))
}

// ownInput returns the exponent of a table, which has its own conditions.
func ownInput(u unit, exponents []int) []int { return []int{exponents[u.own]} }

// Ratios returns the gear ratio at each input.
func Ratios(p api.Plan, s api.Setup) ([][]api.Rat, api.Errno) {
	ratios, e := readPlan(p)
	if e != api.OK {
		return nil, e
	}
	if e := checkExponents(p, s); e != api.OK {
		return nil, e
	}
	x := scalesOf(s)
	for i, u := range p.Units {
		for j, gear := range x.gears(u, x.inputs[i]) {
			ratios[i][j] = ratios[i][j].Times(gear)
		}
	}
	return limits.All(ratios, func(list []number.Fraction) ([]api.Rat, api.Errno) { return limits.All(list, limits.WriteRat) })
}
