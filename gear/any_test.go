package gear

import (
	"math"
	"math/rand"
	"slices"
	"testing"

	"integraph/api"
)

// strange are arguments that are well-formed, nearly so, and not at all.
var (
	strangeInts = []int{0, 1, 2, 3, 4, 5, -1, 6, 400, 401, 999999999, 1000000000, math.MaxInt, math.MinInt}
	strangeRats = []api.Rat{"0", "1", "-1", "1/2", "-3/7", "5", "2/3", "-0", "", "2/4", "x", digits("9", 600), digits("9", 601), "1/" + digits("7", 600)}
)

func pick[T any](r *rand.Rand, list []T) T { return list[r.Intn(len(list))] }

func strangeStock(r *rand.Rand) []api.Wheel {
	stock := someStock(r, 4)
	switch r.Intn(12) {
	case 0:
		return kinds(r.Intn(40))
	case 1:
		pick(r, [][]api.Wheel{stock})[0].Teeth = pick(r, strangeInts)
	case 2:
		stock[len(stock)-1].Count = pick(r, strangeInts)
	case 3:
		return nil
	}
	return stock
}

func strangeTrain(r *rand.Rand) []api.Pair {
	train := someTrain(r)
	if r.Intn(6) == 0 {
		train = append(train, api.Pair{Driver: pick(r, strangeInts), Driven: pick(r, strangeInts)})
	}
	return train
}

func strangePlan(t *testing.T, r *rand.Rand) api.Plan {
	p := somePlan(t, r, 1+r.Intn(3))
	switch r.Intn(12) {
	case 0:
		p.Shafts = pick(r, strangeInts)
	case 1:
		p.Units[0].Feeds[0].Shaft = pick(r, strangeInts)
	case 2:
		p.Units[0].Feeds[0].Ratio = pick(r, strangeRats)
	case 3:
		p.Units[0].Feeds = nil
	case 4:
		p.Units[0].Out = pick(r, strangeInts)
	}
	return p
}

// TestAny calls each function with strange arguments (P1): none panics, no result stands beside an error, results are
// well-formed and new, and arguments do not change.
func TestAny(t *testing.T) {
	r := rand.New(rand.NewSource(18))
	right := map[string]int{}
	expectZero := func(what string, err api.Errno, isZero bool) {
		t.Helper()
		if err != api.OK && !isZero {
			t.Errorf("%s: a result beside the error %d", what, err)
		}
		if err == api.OK {
			right[what]++
		}
	}
	for range 2000 {
		stock, train, p := strangeStock(r), strangeTrain(r), strangePlan(t, r)
		ratio, within, most := pick(r, strangeRats), pick(r, strangeRats), pick(r, strangeInts[:7])
		var trains [][]api.Pair
		for range r.Intn(5) {
			trains = append(trains, strangeTrain(r))
		}
		stockBefore, trainBefore, planBefore := slices.Clone(stock), slices.Clone(train), copyOf(p)
		expectZero("CheckStock", CheckStock(stock), true)
		expectZero("CheckTrain", CheckTrain(stock, train), true)
		a, err := Ratio(train)
		expectZero("Ratio", err, a == "")
		list, err := Normal(train)
		expectZero("Normal", err, list == nil)
		scratch(list)
		list, err = Best(stock, ratio, most)
		expectZero("Best", err, list == nil)
		list, err = Least(stock, ratio, within, most)
		expectZero("Least", err, list == nil)
		lists, err := All(stock, ratio, most)
		expectZero("All", err, lists == nil)
		rats, err := Ratios(stock, min(most, 2))
		expectZero("Ratios", err, rats == nil)
		rats, err = Expansion(ratio)
		expectZero("Expansion", err, rats == nil)
		rats, err = Convergents(ratio)
		expectZero("Convergents", err, rats == nil)
		limit := pick(r, strangeInts)
		s, err := Neighbours(ratio, limit)
		expectZero("Neighbours", err, s == api.Span{})
		expectZero("CheckNeighbours", CheckNeighbours(ratio, limit, pick(r, []api.Span{s, {Low: ratio, High: within}})), true)
		a, err = Approximate(ratio, limit)
		expectZero("Approximate", err, a == "")
		a, err = Carrier(pick(r, strangeInts), limit, ratio, within)
		expectZero("Carrier", err, a == "")
		a, err = Lost(train, slices.Repeat([]api.Rat{within}, pick(r, []int{len(train), 1})))
		expectZero("Lost", err, a == "")
		lists, err = Equip(p, stock, min(most, 2))
		expectZero("Equip", err, lists == nil)
		q, err := Replace(p, trains)
		expectZero("Replace", err, samePlan(q, api.Plan{}))
		for _, u := range q.Units {
			scratch(u.Feeds)
			scratch(u.Curve)
		}
		scratch(q.Units)
		scratch(q.Outputs)
		rats, err = Factors(p, trains)
		expectZero("Factors", err, rats == nil)
		if !slices.Equal(stock, stockBefore) || !slices.Equal(train, trainBefore) || !samePlan(p, planBefore) {
			t.Fatal("an argument is changed")
		}
	}
	for _, what := range []string{"CheckStock", "CheckTrain", "Ratio", "Normal", "Best", "Least", "All", "Ratios", "Expansion", "Convergents", "Neighbours", "CheckNeighbours", "Approximate", "Carrier", "Lost", "Equip", "Replace", "Factors"} {
		if right[what] < 20 {
			t.Errorf("%s has only %d results", what, right[what])
		}
	}
}

// scratch spoils a result: what shares memory with it would change.
func scratch[T any](list []T) {
	clear(list)
}

// TestNothingIsShared spoils one train of a result, which changes no other one.
func TestNothingIsShared(t *testing.T) {
	for _, call := range []func() ([][]api.Pair, api.Errno){
		func() ([][]api.Pair, api.Errno) {
			return All(wheels(1, 10, 1, 15, 1, 20, 1, 30), "1", 2)
		},
		func() ([][]api.Pair, api.Errno) { return Equip(mixed(), wheels(9, 20, 9, 30, 9, 50), 2) },
	} {
		list, err := call()
		expectError(t, "the call", err, api.OK)
		for i := range list {
			scratch(list[i])
			list[i] = append(list[i], api.Pair{}) // beyond its end, too
			again, _ := call()
			for j := i + 1; j < len(list); j++ {
				if !slices.Equal(list[j], again[j]) {
					t.Errorf("the trains %d and %d share memory", i, j)
				}
			}
		}
	}
}
