package gear

import (
	"iter"
	"maps"
	"slices"

	"integraph/api"
	"integraph/limits"
	"integraph/number"
)

// mostSelections is the number of selections up to which the trains of a stock are searched.
const mostSelections = 1000

// selection is some wheels of a stock, in ascending order of their teeth, and the product of these.
type selection struct {
	teeth   []int
	product number.Fraction
}

// found is a train of a stock, and how far its ratio is from the one that is searched.
type found struct {
	train    []api.Pair
	distance number.Fraction
}

// order says which one of two things comes first.
type order[T any] struct {
	compare func(a, b T) int
}

// first returns the first one of some things in an order, and false if there are none.
func first[T any](things iter.Seq[T], by order[T]) (T, bool) {
	var best T
	isAny := false
	for thing := range things {
		if !isAny || by.compare(thing, best) < 0 {
			best, isAny = thing, true
		}
	}
	return best, isAny
}

// nearest is the order of nearer trains, and of equally near ones that of trains.
func nearest() order[found] {
	return order[found]{compare: func(a, b found) int {
		if nearer := a.distance.Compare(b.distance); nearer != 0 {
			return nearer
		}
		return compareTrains(a.train, b.train)
	}}
}

// distance returns the absolute value of a - b.
func distance(a, b number.Fraction) number.Fraction { return a.Minus(b).Size() }

// checkPairs returns the error of a number of pairs for a stock.
func checkPairs(stock []api.Wheel, pairs int) api.Errno {
	if pairs < 0 || pairs > api.MaxPairs {
		return api.ErrRange
	}
	count := 1
	for i := range pairs {
		count = count * (len(stock) + i) / (i + 1)
	}
	if count > mostSelections {
		return api.ErrLimit
	}
	return api.OK
}

// selections visits the selections of some number of wheels from a stock.
func selections(stock []api.Wheel, wheels int) iter.Seq[selection] {
	return func(yield func(selection) bool) {
		var extend func(chosen selection, kind int) bool
		extend = func(chosen selection, kind int) bool {
			if len(chosen.teeth) == wheels {
				return yield(chosen)
			}
			for i, w := range stock[kind:] {
				if chosen.count(w.Teeth) < w.Count && !extend(chosen.with(w.Teeth), kind+i) {
					return false
				}
			}
			return true
		}
		extend(selection{product: number.Whole(1)}, 0)
	}
}

// count returns how many wheels have so many teeth.
func (s selection) count(teeth int) int {
	count := 0
	for _, other := range s.teeth {
		if other == teeth {
			count++
		}
	}
	return count
}

// with returns the selection with one more wheel.
func (s selection) with(teeth int) selection {
	return selection{append(slices.Clip(s.teeth), teeth), s.product.Times(number.Whole(teeth))}
}

// meets reports whether two selections have wheels of the same kind.
func (s selection) meets(other selection) bool {
	return slices.ContainsFunc(s.teeth, func(teeth int) bool { return slices.Contains(other.teeth, teeth) })
}

// sorted returns the selections of some number of wheels from a stock, in ascending order of their products.
func sorted(stock []api.Wheel, wheels int) []selection {
	return slices.SortedFunc(selections(stock, wheels), func(a, b selection) int { return a.product.Compare(b.product) })
}

// near visits, of the trains of a stock with at least and at most some pairs, those that are nearest to a ratio
// from below, and from above, among all with the same drivers.
func near(stock []api.Wheel, ratio number.Fraction, least, most int) iter.Seq[found] {
	return func(yield func(found) bool) {
		for pairs := least; pairs <= most; pairs++ {
			all := sorted(stock, pairs)
			for _, drivers := range all {
				for drivens := range drivers.partners(all, ratio) {
					train := paired(drivers.teeth, drivens.teeth)
					if !yield(found{train, distance(ratioOf(train), ratio)}) {
						return
					}
				}
			}
		}
	}
}

// partners visits the drivens that bring these drivers nearest to a ratio from below, and from above; the products
// of all drivens ascend.
func (s selection) partners(all []selection, ratio number.Fraction) iter.Seq[selection] {
	wanted := s.product.Over(ratio)
	middle, _ := slices.BinarySearchFunc(all, wanted, func(drivens selection, wanted number.Fraction) int {
		return drivens.product.Compare(wanted)
	})
	return func(yield func(selection) bool) {
		for _, side := range []iter.Seq2[int, selection]{slices.Backward(all[:middle]), slices.All(all[middle:])} {
			var product number.Fraction // of the first partners on this side
			for _, drivens := range side {
				if product.Sign() != 0 && product.Compare(drivens.product) != 0 {
					break
				}
				if s.meets(drivens) {
					continue
				}
				product = drivens.product
				if !yield(drivens) {
					return
				}
			}
		}
	}
}

// Best returns the train of a stock that is nearest to a ratio.
func Best(stock []api.Wheel, ratio api.Rat, pairs int) ([]api.Pair, api.Errno) {
	x, e := readSearch(stock, ratio, pairs)
	if e != api.OK {
		return nil, e
	}
	return best(stock, x, pairs), api.OK
}

// readSearch returns the value of the ratio of a search, or the first error of its arguments.
func readSearch(stock []api.Wheel, ratio api.Rat, pairs int) (number.Fraction, api.Errno) {
	if e := CheckStock(stock); e != api.OK {
		return number.Fraction{}, e
	}
	x, e := limits.ReadPositive(ratio)
	if e != api.OK {
		return number.Fraction{}, e
	}
	return x, checkPairs(stock, pairs)
}

// best returns the train of a stock that is nearest to a ratio; there is always the one without pairs.
func best(stock []api.Wheel, ratio number.Fraction, pairs int) []api.Pair {
	x, _ := first(near(stock, ratio, 0, pairs), nearest())
	return x.train
}

// Least returns a train with as few pairs as possible that is near enough to a ratio.
func Least(stock []api.Wheel, ratio, within api.Rat, pairs int) ([]api.Pair, api.Errno) {
	if e := CheckStock(stock); e != api.OK {
		return nil, e
	}
	x, e := limits.ReadPositive(ratio)
	if e != api.OK {
		return nil, e
	}
	most, e := readDistance(within)
	if e != api.OK {
		return nil, e
	}
	if e := checkPairs(stock, pairs); e != api.OK {
		return nil, e
	}
	for n := range pairs + 1 {
		if best, isAny := first(near(stock, x, n, n), nearest()); isAny && best.distance.Compare(most) <= 0 {
			return best.train, api.OK
		}
	}
	return nil, api.ErrNone
}

// readDistance returns the value of a number that is not negative, or its error.
func readDistance(a api.Rat) (number.Fraction, api.Errno) {
	x, e := limits.ReadRat(a)
	if e != api.OK {
		return number.Fraction{}, e
	}
	if x.Sign() < 0 {
		return number.Fraction{}, api.ErrRange
	}
	return x, api.OK
}

// All returns all trains of a stock with a ratio.
func All(stock []api.Wheel, ratio api.Rat, pairs int) ([][]api.Pair, api.Errno) {
	x, e := readSearch(stock, ratio, pairs)
	if e != api.OK {
		return nil, e
	}
	var all [][]api.Pair
	for f := range near(stock, x, 0, pairs) {
		if f.distance.Sign() != 0 {
			continue
		}
		if len(all) == api.MaxList {
			return nil, api.ErrMany
		}
		all = append(all, f.train)
	}
	slices.SortFunc(all, compareTrains)
	return all, api.OK
}

// Ratios returns the ratios of all trains of a stock.
func Ratios(stock []api.Wheel, pairs int) ([]api.Rat, api.Errno) {
	if e := CheckStock(stock); e != api.OK {
		return nil, e
	}
	if e := checkPairs(stock, pairs); e != api.OK {
		return nil, e
	}
	different := map[string]number.Fraction{}
	for ratio := range ratios(stock, pairs) {
		different[ratio.String()] = ratio
		if len(different) > api.MaxList {
			return nil, api.ErrMany
		}
	}
	return limits.All(slices.SortedFunc(maps.Values(different), number.Fraction.Compare), limits.WriteRat)
}

// ratios visits the ratios of all trains of a stock with at most some pairs.
func ratios(stock []api.Wheel, most int) iter.Seq[number.Fraction] {
	return func(yield func(number.Fraction) bool) {
		for pairs := range most + 1 {
			all := sorted(stock, pairs)
			for _, drivers := range all {
				for _, drivens := range all {
					if !drivers.meets(drivens) && !yield(drivers.product.Over(drivens.product)) {
						return
					}
				}
			}
		}
	}
}
