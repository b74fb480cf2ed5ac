package scale

import (
	"iter"
	"slices"

	"integraph/api"
)

// Condition says that the exponent of one shaft or input is at most that of another one and a number more; -1 stands for the number 0.
type Condition struct {
	Less int
	Than int
	Most int
}

// zero is what stands for 0 in conditions.
const zero = -1

// Conditions returns the conditions on the exponents.
func Conditions(p api.Plan, ranges []api.Span, b api.Bench) ([]Condition, api.Errno) {
	x, e := readBounds(p, ranges, b)
	if e != api.OK {
		return nil, e
	}
	return x.list(), api.OK
}

// list returns the conditions in their order.
func (b bounds) list() []Condition {
	var list []Condition
	for _, c := range b.conditions() {
		list = append(list, c)
	}
	return list
}

// conditions visits the conditions of a full set-up with their places.
func (b bounds) conditions() iter.Seq2[int, Condition] {
	return func(yield func(int, Condition) bool) {
		place := 0
		visit := func(conditions ...Condition) bool {
			for _, c := range conditions {
				if !yield(place, c) {
					return false
				}
				place++
			}
			return true
		}
		for s, limit := range b.shafts {
			if !visit(Condition{s, zero, limit}, Condition{zero, s, api.MaxExponent}) {
				return
			}
		}
		for _, u := range b.units {
			if !visit(u.conditions(u)...) {
				return
			}
		}
	}
}

// more returns by how much the exponent of the shaft of an integrator is greater than that of its second input.
func (u unit) more() int { return u.most[0] - u.Constant }

// ofIntegrator returns the conditions of an integrator.
func ofIntegrator(u unit) []Condition {
	a, b, o := u.Feeds[0].Shaft, u.Feeds[1].Shaft, u.Out
	disc, more := u.most[0], u.more()
	return []Condition{
		{zero, zero, disc + api.MaxExponent},
		{a, zero, disc + u.Gear},
		{zero, a, u.Gear - disc},
		{o, zero, u.most[1] + more},
		{zero, o, api.MaxExponent - more},
		{o, b, u.Gear + more},
		{b, o, u.Gear - more},
	}
}

// ofAdder returns the conditions of an adder.
func ofAdder(u unit) []Condition {
	var list []Condition
	for i, f := range u.Feeds {
		list = append(list, Condition{u.Out, zero, u.most[i]}, Condition{u.Out, f.Shaft, u.Gear}, Condition{f.Shaft, u.Out, u.Gear})
	}
	return list
}

// ofTable returns the conditions of a table.
func ofTable(u unit) []Condition {
	n, a := u.own, u.Feeds[0].Shaft
	return []Condition{{n, zero, u.most[0]}, {zero, n, api.MaxExponent}, {n, a, u.Gear}, {a, n, u.Gear}}
}

// cause is a condition by which an exponent has been lowered: its place, and its Than.
type cause struct {
	place, than int
}

// at returns the place of the exponent with a number of conditions in a list; 0 has one, too.
func at(v int) int { return v - zero }

// relax returns the greatest exponents of shafts and inputs of tables that satisfy all conditions, or a circle that
// none satisfy.
//
// It lowers exponents until no condition is broken. Without a circle each exponent comes down to a sum of conditions
// over different exponents, which takes at most as many rounds as there are exponents; so one that is lowered later
// than this was lowered by a circle.
func (b bounds) relax() (exponents, circle []int) {
	x := slices.Repeat([]int{api.MaxExponent}, at(len(b.shafts)+b.tables))
	x[at(zero)] = 0
	causes := make([]cause, len(x))
	low := zero
relaxation:
	for round := 0; ; round++ {
		isDone := true
		for place, c := range b.conditions() {
			most := x[at(c.Than)] + c.Most
			if x[at(c.Less)] <= most {
				continue
			}
			x[at(c.Less)], causes[at(c.Less)] = most, cause{place, c.Than}
			isDone = false
			if round > len(x) {
				low = c.Less
				break relaxation
			}
		}
		if isDone {
			return x[at(0):], nil
		}
	}
	return nil, circleBehind(causes, low)
}

// circleBehind returns the circle of conditions to which the causes of an exponent lead back.
func circleBehind(causes []cause, v int) []int {
	for range causes {
		v = causes[at(v)].than // after so many steps this is on the circle
	}
	last := causes[at(v)]
	circle := []int{last.place}
	for w := last.than; w != v; w = causes[at(w)].than {
		circle = append(circle, causes[at(w)].place)
	}
	slices.Reverse(circle)
	return circle
}

// Refuse returns a circle of conditions that contradict each other.
func Refuse(p api.Plan, ranges []api.Span, b api.Bench) ([]int, api.Errno) {
	x, e := readBounds(p, ranges, b)
	if e != api.OK {
		return nil, e
	}
	exponents, circle := x.relax()
	if exponents != nil {
		return nil, api.ErrNone
	}
	return circle, api.OK
}

// CheckRefused returns OK for such a circle.
func CheckRefused(p api.Plan, ranges []api.Span, b api.Bench, circle []int) api.Errno {
	x, e := readBounds(p, ranges, b)
	if e != api.OK {
		return e
	}
	if len(circle) == 0 {
		return api.ErrEmpty
	}
	if len(circle) > api.MaxList {
		return api.ErrMany
	}
	list := x.list()
	for _, place := range circle {
		if place < 0 || place >= len(list) {
			return api.ErrUnknown
		}
	}
	if !isContradiction(list, circle) {
		return api.ErrProof
	}
	return api.OK
}

// isContradiction reports whether the conditions at some places are a circle with a negative sum.
func isContradiction(list []Condition, circle []int) bool {
	sum := 0
	before := list[circle[len(circle)-1]]
	for _, place := range circle {
		c := list[place]
		if c.Than != before.Less {
			return false
		}
		sum += c.Most
		before = c
	}
	return sum < 0
}
