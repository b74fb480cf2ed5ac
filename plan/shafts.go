package plan

import (
	"iter"
	"slices"

	"integraph/api"
)

// Parts returns the units on which a shaft hangs.
func Parts(p api.Plan, shaft int) ([]int, api.Errno) {
	x, e := readPlan(p)
	if e != api.OK {
		return nil, e
	}
	if shaft < 0 || shaft >= p.Shafts {
		return nil, api.ErrUnknown
	}
	return x.parts(shaft), api.OK
}

// upstream visits some shafts and all those on which they hang, each one once.
func (p plan) upstream(shafts ...int) iter.Seq[int] {
	return func(yield func(int) bool) {
		reached := make([]bool, len(p.drivers))
		for next := slices.Clone(shafts); len(next) > 0; {
			shaft := next[0]
			next = next[1:]
			if reached[shaft] {
				continue
			}
			reached[shaft] = true
			if !yield(shaft) {
				return
			}
			if driver := p.drivers[shaft]; driver != none {
				for _, f := range p.units[driver].feeds {
					next = append(next, f.shaft)
				}
			}
		}
	}
}

// parts returns the units on which some shafts hang, in ascending order.
func (p plan) parts(shafts ...int) []int {
	var parts []int
	for shaft := range p.upstream(shafts...) {
		if p.drivers[shaft] != none {
			parts = append(parts, p.drivers[shaft])
		}
	}
	slices.Sort(parts)
	return parts
}

// Order returns the units in an order in which each one is behind those with which it moves.
func Order(p api.Plan) ([]int, api.Errno) {
	x, e := readPlan(p)
	if e != api.OK {
		return nil, e
	}
	return x.order(), api.OK
}

// order returns the lexicographically first order of the units in which each one is behind those with which it moves;
// units of a loop, and those that move with them, are not in it.
func (p plan) order() []int {
	var order []int
	isDone := make([]bool, len(p.units))
search:
	for len(order) < len(p.units) {
		for i, u := range p.units {
			if !isDone[i] && p.canMove(u, isDone) {
				order = append(order, i)
				isDone[i] = true
				continue search
			}
		}
		break
	}
	return order
}

// canMove reports whether all units with which a unit moves are done.
func (p plan) canMove(u unit, isDone []bool) bool {
	return !slices.ContainsFunc(u.moving(u.feeds), func(f feed) bool {
		driver := p.drivers[f.shaft]
		return driver != none && !isDone[driver]
	})
}

// Prune returns the plan without the units on which no output hangs.
func Prune(p api.Plan) (api.Plan, api.Errno) {
	x, e := readPlan(p)
	if e != api.OK {
		return api.Plan{}, e
	}
	parts := x.parts(p.Outputs...)
	shafts := []int{0}
	for _, i := range parts {
		shafts = append(shafts, x.units[i].out)
	}
	slices.Sort(shafts)
	to := make([]int, p.Shafts)
	for number, shaft := range shafts {
		to[shaft] = number
	}
	return placed(p, parts, to, len(shafts)), api.OK
}

// Renumber returns the plan with other numbers of shafts.
func Renumber(p api.Plan, to []int) (api.Plan, api.Errno) {
	x, e := readPlan(p)
	if e != api.OK {
		return api.Plan{}, e
	}
	if len(to) != p.Shafts {
		return api.Plan{}, api.ErrShape
	}
	for i, shaft := range to {
		if shaft < 0 || shaft >= p.Shafts {
			return api.Plan{}, api.ErrUnknown
		}
		if slices.Contains(to[:i], shaft) {
			return api.Plan{}, api.ErrTwice
		}
	}
	if to[0] != 0 {
		return api.Plan{}, api.ErrOrder
	}
	return placed(p, numbers(len(x.units)), to, p.Shafts), api.OK
}

// numbers returns the numbers below n.
func numbers(n int) []int {
	list := make([]int, n)
	for i := range list {
		list[i] = i
	}
	return list
}

// placed returns the plan of some units, in which each shaft k that they have has the number to[k].
func placed(p api.Plan, units, to []int, shafts int) api.Plan {
	q := api.Plan{Shafts: shafts}
	for _, i := range units {
		u := p.Units[i]
		u.Out = to[u.Out]
		u.Feeds, u.Curve = slices.Clone(u.Feeds), slices.Clone(u.Curve)
		for j, f := range u.Feeds {
			u.Feeds[j].Shaft = to[f.Shaft]
		}
		q.Units = append(q.Units, u)
	}
	for _, shaft := range p.Outputs {
		q.Outputs = append(q.Outputs, to[shaft])
	}
	return q
}
