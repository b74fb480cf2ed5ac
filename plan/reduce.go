package plan

import (
	"integraph/api"
	"integraph/number"
)

// Reduce returns a regular plan with as few integrators as possible.
func Reduce(s api.System, wanted []int) (api.Plan, api.Errno) {
	x, e := readWanted(s, wanted)
	if e != api.OK {
		return api.Plan{}, e
	}
	l, e := x.linear()
	if e != api.OK {
		return api.Plan{}, e
	}
	p, e := l.need(wanted).plan(wanted)
	if e != api.OK {
		return api.Plan{}, api.ErrLarge // also if there are too many units, as there are for many variables only
	}
	return p, api.OK
}

// plan returns a plan with an integrator for each function of the basis.
func (n need) plan(wanted []int) (api.Plan, api.Errno) {
	basis := n.basis.pivots()
	var starts []number.Fraction
	for _, pivot := range basis {
		starts = append(starts, n.basis[pivot].times(n.starts))
	}
	b := newBuilder(starts)
	for i, pivot := range basis {
		function := n.basis[pivot]
		b.integrate(i+1, n.show(&b, n.rate(function), function.times(n.first), function.times(n.second)))
	}
	shafts := map[int]int{}
	var outputs []int
	for _, v := range wanted {
		if _, ok := shafts[v]; !ok {
			variable := row[int]{v: number.Whole(1)}
			shafts[v] = b.shaft(n.show(&b, variable, n.starts[v], n.first[v]))
		}
		outputs = append(outputs, shafts[v])
	}
	return b.write(outputs)
}

// show returns a feed with the value of a function that is the same as one of the basis, and has some value and some
// derivative at the beginning.
func (n need) show(b *builder, function row[int], start, first number.Fraction) feed {
	same := n.same(function)
	var feeds []feed
	slope := first
	for i, pivot := range n.basis.pivots() {
		if factor, ok := same[pivot]; ok {
			feeds = append(feeds, feed{i + 1, factor})
			slope = slope.Minus(factor.Times(n.basis[pivot].times(n.first)))
		}
	}
	if slope.Sign() != 0 {
		feeds = append(feeds, feed{0, slope})
	}
	return b.sum(start, feeds)
}
