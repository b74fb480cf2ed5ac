package gear

import (
	"math/big"
	"math/rand"
	"slices"
	"testing"

	"integraph/api"
)

// trainsOf returns the trains of a stock in their order, found among all chains of pairs of its kinds.
func trainsOf(stock []api.Wheel, most int) [][]api.Pair {
	var trains [][]api.Pair
	chains := [][]api.Pair{nil}
	for range most + 1 {
		var longer [][]api.Pair
		for _, chain := range chains {
			if isNormal(chain) && isBuilt(stock, chain) {
				trains = append(trains, chain)
			}
			for _, a := range stock {
				for _, b := range stock {
					longer = append(longer, append(slices.Clip(chain), api.Pair{Driver: a.Teeth, Driven: b.Teeth}))
				}
			}
		}
		chains = longer
	}
	slices.SortFunc(trains, func(a, b []api.Pair) int { return slices.Compare(rankOf(a), rankOf(b)) })
	return trains
}

// rankOf returns a list by which trains are in their order.
func rankOf(train []api.Pair) []int {
	rank := []int{len(train), 0}
	for _, p := range train {
		rank[1] += p.Driver + p.Driven
		rank = append(rank, p.Driver, p.Driven)
	}
	return rank
}

// bigDistance returns how far the ratio of a train is from a number.
func bigDistance(train []api.Pair, ratio api.Rat) *big.Rat {
	d := bigRatio(train)
	return d.Abs(d.Sub(d, bigOf(ratio)))
}

// nearestOf returns the first one of the nearest trains.
func nearestOf(trains [][]api.Pair, ratio api.Rat) []api.Pair {
	return slices.MinFunc(trains, func(a, b []api.Pair) int { return bigDistance(a, ratio).Cmp(bigDistance(b, ratio)) })
}

func TestBestExamples(t *testing.T) {
	huge, tiny := digits("9", 600), "1/"+digits("9", 600)
	for _, row := range []struct {
		stock []api.Wheel
		ratio api.Rat
		pairs int
		want  []api.Pair
		err   api.Errno
	}{
		{example(), "1/2", 1, pairs(20, 50), api.OK}, {example(), "1/2", 2, pairs(20, 50), api.OK}, {example(), "1/2", 0, nil, api.OK}, {example(), "1", 4, nil, api.OK}, {example(), "5/6", 4, nil, api.OK}, {example(), "4/5", 4, pairs(20, 30), api.OK}, {example(), "2/7", 2, pairs(20, 30, 20, 50), api.OK},
		{example(), huge, 1, pairs(50, 20), api.OK}, {example(), huge, 4, pairs(30, 20, 50, 20), api.OK}, {example(), tiny, 4, pairs(20, 30, 20, 50), api.OK}, {wheels(1, 7), "7", 4, nil, api.OK}, {wheels(100, 7), "7", 4, nil, api.OK},
		{wheels(4, 6, 4, 400), huge, 4, pairs(400, 6, 400, 6, 400, 6, 400, 6), api.OK}, {wheels(3, 6, 4, 400), huge, 4, pairs(400, 6, 400, 6, 400, 6), api.OK}, {wheels(999999999, 6, 999999999, 400), tiny, 4, pairs(6, 400, 6, 400, 6, 400, 6, 400), api.OK},
		{nil, "x", -1, nil, api.ErrEmpty}, {wheels(0, 20), "x", -1, nil, api.ErrRange}, {example(), "x", -1, nil, api.ErrForm}, {example(), huge + "9", -1, nil, api.ErrLarge}, {example(), "0", 9, nil, api.ErrRange}, {kinds(32), "-1/2", 4, nil, api.ErrRange}, {example(), "1", -1, nil, api.ErrRange}, {kinds(32), "1", 5, nil, api.ErrRange}, {kinds(32), "1", 4, nil, api.ErrLimit},
	} {
		got, err := Best(row.stock, row.ratio, row.pairs)
		expectList(t, "Best of "+string(row.ratio)+" with "+name(row.pairs)+" pairs", got, err, row.want, row.err)
	}
}

// TestSelections has the greatest numbers of kinds that are searched with some pairs.
func TestSelections(t *testing.T) {
	for _, row := range []struct{ kinds, pairs int }{{32, 0}, {32, 1}, {32, 2}, {17, 3}, {10, 4}} {
		for more, want := range []api.Errno{api.OK, api.ErrLimit} {
			n := row.kinds + more
			if n > 32 {
				continue
			}
			_, err := Best(kinds(n), "1", row.pairs)
			expectError(t, "Best with "+name(n, row.pairs), err, want)
			_, err = Least(kinds(n), "1", "0", row.pairs)
			expectError(t, "Least with "+name(n, row.pairs), err, want)
			_, err = All(kinds(n), "1000", row.pairs)
			expectError(t, "All with "+name(n, row.pairs), err, want)
			if _, err = Ratios(kinds(n), row.pairs); want == api.ErrLimit {
				expectError(t, "Ratios with "+name(n, row.pairs), err, want)
			}
			_, err = Equip(api.Plan{Shafts: 1}, kinds(n), row.pairs)
			expectError(t, "Equip with "+name(n, row.pairs), err, want)
		}
	}
}

func TestLeastExamples(t *testing.T) {
	for _, row := range []struct {
		stock         []api.Wheel
		ratio, within api.Rat
		pairs         int
		want          []api.Pair
		err           api.Errno
	}{
		{example(), "1/2", "1/5", 2, pairs(20, 50), api.OK}, {example(), "1/2", "1/20", 2, nil, api.ErrNone}, {example(), "1/2", "1/10", 2, pairs(20, 50), api.OK}, {example(), "1/2", "1/2", 2, nil, api.OK}, {example(), "1/2", "1/2", 0, nil, api.OK}, {example(), "1/2", "9/20", 0, nil, api.ErrNone},
		{example(), "7/5", "1/5", 1, pairs(30, 20), api.OK}, {example(), "7/5", "2/5", 1, nil, api.OK}, {example(), "4/15", "0", 2, pairs(20, 30, 20, 50), api.OK}, {example(), "4/15", "0", 1, nil, api.ErrNone}, {example(), "4/15", "2/15", 2, pairs(20, 50), api.OK},
		{nil, "x", "x", -1, nil, api.ErrEmpty}, {example(), "x", "2/4", -1, nil, api.ErrForm}, {example(), "0", "x", -1, nil, api.ErrRange}, {example(), "1", "x", -1, nil, api.ErrForm}, {example(), "1", digits("9", 601), -1, nil, api.ErrLarge}, {kinds(32), "1", "-1/9", 4, nil, api.ErrRange}, {example(), "1", "0", 5, nil, api.ErrRange}, {kinds(32), "1", "0", 4, nil, api.ErrLimit}, {kinds(32), "1", "0", 2, nil, api.OK},
	} {
		got, err := Least(row.stock, row.ratio, row.within, row.pairs)
		expectList(t, "Least of "+string(row.ratio)+" within "+string(row.within)+" with "+name(row.pairs)+" pairs", got, err, row.want, row.err)
	}
}

// composite is a stock whose trains have many equal ratios: with three of the least wheels just 256 trains of four pairs
// or less have the ratio 32/135, with four 257.
func composite(least int) []api.Wheel {
	return wheels(least, 12, 4, 15, 4, 16, 4, 18, 4, 20, 4, 24, 4, 30, 4, 36, 4, 40, 4, 48)
}

func TestAllExamples(t *testing.T) {
	for _, row := range []struct {
		stock []api.Wheel
		ratio api.Rat
		pairs int
		want  [][]api.Pair
		err   api.Errno
	}{
		{example(), "1", 4, [][]api.Pair{nil}, api.OK}, {example(), "2/5", 4, [][]api.Pair{pairs(20, 50)}, api.OK}, {example(), "1/2", 4, nil, api.OK}, {example(), "2/5", 0, nil, api.OK},
		{wheels(1, 10, 1, 15, 1, 20, 1, 30), "1/2", 2, [][]api.Pair{pairs(10, 20), pairs(15, 30)}, api.OK}, {wheels(1, 10, 1, 15, 1, 20, 1, 30), "1", 2, [][]api.Pair{nil, pairs(10, 15, 30, 20), pairs(15, 10, 20, 30)}, api.OK},
		{composite(4), "32/135", 4, nil, api.ErrMany}, {composite(4), "1", 4, nil, api.ErrMany},
		{nil, "x", -1, nil, api.ErrEmpty}, {example(), "2/4", -1, nil, api.ErrForm}, {example(), "-2", -1, nil, api.ErrRange}, {example(), "1", 5, nil, api.ErrRange}, {kinds(11), "1", 4, nil, api.ErrLimit},
	} {
		got, err := All(row.stock, row.ratio, row.pairs)
		expectTrains(t, "All of "+string(row.ratio)+" with "+name(row.pairs)+" pairs", got, err, row.want, row.err)
	}
	got, err := All(composite(3), "32/135", 4)
	if err != api.OK || len(got) != 256 {
		t.Errorf("All: %d trains, and the error %d", len(got), err)
	}
}

func TestRatiosExamples(t *testing.T) {
	simple := []api.Rat{"2/5", "3/5", "2/3", "1", "3/2", "5/3", "5/2"}
	twice := slices.Concat([]api.Rat{"4/15"}, simple, []api.Rat{"15/4"})
	for _, row := range []struct {
		what  string
		stock []api.Wheel
		pairs int
		want  []api.Rat
		err   api.Errno
	}{
		{"no pairs", example(), 0, []api.Rat{"1"}, api.OK}, {"a pair", example(), 1, simple, api.OK}, {"two pairs", example(), 2, twice, api.OK}, {"four pairs", example(), 4, twice, api.OK},
		{"257 ratios", wheels(1, 13, 2, 20, 2, 29, 1, 40, 1, 46, 2, 49, 1, 58), 2, nil, api.ErrMany}, {"no stock", nil, -1, nil, api.ErrEmpty}, {"-1 pairs", example(), -1, nil, api.ErrRange}, {"5 pairs", kinds(32), 5, nil, api.ErrRange}, {"32 kinds", kinds(32), 3, nil, api.ErrLimit},
	} {
		got, err := Ratios(row.stock, row.pairs)
		expectList(t, "Ratios: "+row.what, got, err, row.want, row.err)
	}
	got, err := Ratios(wheels(1, 15, 2, 23, 1, 27, 2, 37, 1, 46, 1, 47, 2, 54), 2)
	if err != api.OK || len(got) != 255 {
		t.Errorf("Ratios: %d ratios, and the error %d", len(got), err)
	}
}

// TestSearches compares searches with those in the list of all trains.
func TestSearches(t *testing.T) {
	r := rand.New(rand.NewSource(4))
	ties, none, several := 0, 0, 0
	for range 250 {
		stock, most := someStock(r, 5), r.Intn(4)
		if len(stock) < 4 {
			most = r.Intn(5)
		}
		trains := trainsOf(stock, most)
		for range 8 {
			ratio, within := someRatio(r, trains), someRat(r, 40)
			got, err := Best(stock, ratio, most)
			expectList(t, "Best of "+string(ratio), got, err, nearestOf(trains, ratio), api.OK)
			near := slices.DeleteFunc(slices.Clone(trains), func(x []api.Pair) bool { return bigDistance(x, ratio).Cmp(bigOf(within)) > 0 })
			short := slices.DeleteFunc(slices.Clone(near), func(x []api.Pair) bool { return len(x) > len(near[0]) })
			got, err = Least(stock, ratio, within, most)
			if len(near) == 0 {
				expectList(t, "Least of "+string(ratio), got, err, nil, api.ErrNone)
				none++
			} else {
				expectList(t, "Least of "+string(ratio), got, err, nearestOf(short, ratio), api.OK)
			}
			exact := slices.DeleteFunc(slices.Clone(trains), func(x []api.Pair) bool { return bigDistance(x, ratio).Sign() != 0 })
			all, err := All(stock, ratio, most)
			expectTrains(t, "All of "+string(ratio), all, err, exact, api.OK)
			least := bigDistance(nearestOf(trains, ratio), ratio)
			if len(slices.DeleteFunc(slices.Clone(trains), func(x []api.Pair) bool { return bigDistance(x, ratio).Cmp(least) > 0 })) > 1 {
				ties++
			}
			if len(exact) > 1 {
				several++
			}
		}
		expectRatios(t, stock, most, trains)
	}
	if ties < 50 || none < 50 || several < 5 {
		t.Errorf("%d ties, %d times none, %d times several", ties, none, several)
	}
}

// someRatio returns a ratio that a train has, one in the middle of two, or any other one.
func someRatio(r *rand.Rand, trains [][]api.Pair) api.Rat {
	some := func() *big.Rat { return bigRatio(trains[r.Intn(len(trains))]) }
	switch r.Intn(3) {
	case 0:
		return ratOf(some())
	case 1:
		sum := some()
		return ratOf(sum.Mul(sum.Add(sum, some()), big.NewRat(1, 2)))
	}
	return someRat(r, 20)
}

// expectRatios reports ratios that are not those of all trains.
func expectRatios(t *testing.T, stock []api.Wheel, most int, trains [][]api.Pair) {
	t.Helper()
	var ratios []*big.Rat
	for _, train := range trains {
		ratios = append(ratios, bigRatio(train))
	}
	slices.SortFunc(ratios, (*big.Rat).Cmp)
	ratios = slices.CompactFunc(ratios, func(a, b *big.Rat) bool { return a.Cmp(b) == 0 })
	var want []api.Rat
	for _, ratio := range ratios {
		want = append(want, ratOf(ratio))
	}
	wantError := api.OK
	if len(want) > api.MaxList {
		want, wantError = nil, api.ErrMany
	}
	got, err := Ratios(stock, most)
	expectList(t, "Ratios with "+name(most)+" pairs", got, err, want, wantError)
}

// TestFullSearches has the largest stocks that are searched: Best is not worse than any of all trains.
func TestFullSearches(t *testing.T) {
	r := rand.New(rand.NewSource(5))
	for _, row := range []struct{ kinds, most int }{{10, 4}, {17, 3}, {32, 2}} {
		var stock []api.Wheel
		for _, i := range slices.Sorted(slices.Values(r.Perm(395)[:row.kinds])) {
			stock = append(stock, api.Wheel{Teeth: 6 + i, Count: 1 + r.Intn(4)})
		}
		ratio := ratOf(big.NewRat(1+r.Int63n(1e9), 1+r.Int63n(1e9)))
		got, err := Best(stock, ratio, row.most)
		expectError(t, "Best", err, api.OK)
		wanted, _ := bigOf(ratio).Float64()
		reached, _ := bigRatio(got).Float64()
		least := max(reached-wanted, wanted-reached)
		for range 300000 {
			n := 1 + r.Intn(row.most)
			ratio := 1.0
			left := map[int]int{}
			for range n {
				a, b := stock[r.Intn(len(stock))], stock[r.Intn(len(stock))]
				left[a.Teeth]++
				left[b.Teeth]++
				ratio *= float64(a.Teeth) / float64(b.Teeth)
				if left[a.Teeth] > a.Count || left[b.Teeth] > b.Count {
					ratio = 1
					break
				}
			}
			if d := max(ratio-wanted, wanted-ratio); d < least*(1-1e-9) {
				t.Fatalf("Best: a train of %v is nearer to %v than %v", stock, wanted, got)
			}
		}
	}
}
