package gear

import (
	"iter"
	"slices"

	"integraph/api"
	"integraph/limits"
	"integraph/number"
	"integraph/plan"
)

// Equip returns trains for a plan from a stock.
func Equip(p api.Plan, stock []api.Wheel, pairs int) ([][]api.Pair, api.Errno) {
	ratios, e := readFeeds(p)
	if e != api.OK {
		return nil, e
	}
	if e := CheckStock(stock); e != api.OK {
		return nil, e
	}
	if e := checkPairs(stock, pairs); e != api.OK {
		return nil, e
	}
	left := shelfOf(stock)
	trains := make([][]api.Pair, len(ratios))
	for i, ratio := range ratios {
		trains[i] = best(left.stock(), ratio.Size(), pairs)
		left.take(trains[i])
	}
	return trains, api.OK
}

// readFeeds returns the ratios of the feeds of a plan, or its first error.
func readFeeds(p api.Plan) ([]number.Fraction, api.Errno) {
	if e := plan.CheckPlan(p); e != api.OK {
		return nil, e
	}
	return limits.All(slices.Collect(feeds(p.Units)), readFeed)
}

// feeds visits the feeds of some units in their order, so that they can be changed.
func feeds(units []api.Unit) iter.Seq[*api.Feed] {
	return func(yield func(*api.Feed) bool) {
		for _, u := range units {
			for i := range u.Feeds {
				if !yield(&u.Feeds[i]) {
					return
				}
			}
		}
	}
}

// readFeed returns the ratio of a feed, or its error.
func readFeed(f *api.Feed) (number.Fraction, api.Errno) { return limits.ReadRat(f.Ratio) }

// readTrains returns the ratios of the feeds of a plan and those of trains for it, or the first error of both.
func readTrains(p api.Plan, trains [][]api.Pair) (ratios, made []number.Fraction, e api.Errno) {
	if ratios, e = readFeeds(p); e != api.OK {
		return nil, nil, e
	}
	if len(trains) != len(ratios) {
		return nil, nil, api.ErrShape
	}
	if made, e = limits.All(trains, readTrain); e != api.OK {
		return nil, nil, e
	}
	return ratios, made, api.OK
}

// Factors returns how much the ratios of trains are those of a plan.
func Factors(p api.Plan, trains [][]api.Pair) ([]api.Rat, api.Errno) {
	ratios, made, e := readTrains(p, trains)
	if e != api.OK {
		return nil, e
	}
	for i, ratio := range ratios {
		made[i] = made[i].Over(ratio.Size())
	}
	return limits.All(made, limits.WriteRat)
}

// Replace returns a plan with the ratios of trains.
func Replace(p api.Plan, trains [][]api.Pair) (api.Plan, api.Errno) {
	ratios, made, e := readTrains(p, trains)
	if e != api.OK {
		return api.Plan{}, e
	}
	inOrder, e := plan.Order(p)
	if e != api.OK {
		return api.Plan{}, e
	}
	q := copied(p)
	i := 0
	for f := range feeds(q.Units) {
		if ratios[i].Sign() < 0 {
			made[i] = made[i].Negative()
		}
		f.Ratio = api.Rat(made[i].String()) // the teeth of a train have few digits
		i++
	}
	if e := startTables(q, inOrder); e != api.OK {
		return api.Plan{}, e
	}
	return q, api.OK
}

// copied returns a plan that shares no memory.
func copied(p api.Plan) api.Plan {
	p.Units, p.Outputs = slices.Clone(p.Units), slices.Clone(p.Outputs)
	for i, u := range p.Units {
		p.Units[i].Feeds, p.Units[i].Curve = slices.Clone(u.Feeds), slices.Clone(u.Curve)
	}
	return p
}

// startTables puts the tables of a plan where they show the values of their curves at the beginning; in order, each
// table is behind the unit that drives its feed.
func startTables(p api.Plan, inOrder []int) api.Errno {
	starts := make([]number.Fraction, p.Shafts)
	for _, i := range inOrder {
		u := &p.Units[i]
		start, e := startOf(*u, starts)
		if e != api.OK {
			return e
		}
		if u.Start, e = limits.WriteRat(start); e != api.OK {
			return e
		}
		starts[u.Out] = start
	}
	return api.OK
}

// startOf returns the start of a unit: for a table the value of its curve where the shafts start at some positions.
func startOf(u api.Unit, starts []number.Fraction) (number.Fraction, api.Errno) {
	if len(u.Curve) == 0 {
		return limits.ReadRat(u.Start)
	}
	ratio, e := readFeed(&u.Feeds[0])
	if e != api.OK {
		return number.Fraction{}, e
	}
	curve, e := limits.All(u.Curve, limits.ReadRat)
	if e != api.OK {
		return number.Fraction{}, e
	}
	return number.Curve(curve, ratio.Times(starts[u.Feeds[0].Shaft])), api.OK
}
