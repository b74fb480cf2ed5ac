package gear

import (
	"math/big"
	"math/rand"
	"slices"
	"testing"

	"integraph/api"
	"integraph/plan"
)

// unit returns a unit; its feeds are those of the shafts with the ratios.
func unit(kind string, out int, start api.Rat, shafts []int, ratios []api.Rat, curve ...api.Rat) api.Unit {
	u := api.Unit{Kind: kind, Out: out, Start: start, Curve: curve}
	for i, shaft := range shafts {
		u.Feeds = append(u.Feeds, api.Feed{Shaft: shaft, Ratio: ratios[i]})
	}
	return u
}

// mixed is a plan in which a table stands before the table that drives it, and this before an adder and an integrator.
func mixed() api.Plan {
	return api.Plan{Shafts: 6, Units: []api.Unit{
		unit("table", 5, "9/4", []int{4}, []api.Rat{"1/2"}, "0", "0", "1"),
		unit("table", 4, "3", []int{3}, []api.Rat{"-1"}, "1", "1"),
		unit("adder", 3, "-2", []int{1, 0, 1}, []api.Rat{"2/3", "-5/2", "1"}),
		unit("integrator", 1, "1", []int{1, 0}, []api.Rat{"-2/5", "3/7"}),
		unit("table", 2, "7", []int{0}, []api.Rat{"4"}, "7"),
	}, Outputs: []int{5, 1}}
}

// exact returns, for each feed of a plan, the shortest train with the absolute value of its ratio.
func exact(p api.Plan) [][]api.Pair {
	var trains [][]api.Pair
	for _, u := range p.Units {
		for _, f := range u.Feeds {
			ratio := bigOf(f.Ratio)
			var train []api.Pair
			if ratio.Abs(ratio).Cmp(big.NewRat(1, 1)) != 0 {
				train = pairs(int(ratio.Num().Int64()), int(ratio.Denom().Int64()))
			}
			trains = append(trains, train)
		}
	}
	return trains
}

// copyOf returns a plan that shares no memory.
func copyOf(p api.Plan) api.Plan {
	p.Units, p.Outputs = slices.Clone(p.Units), slices.Clone(p.Outputs)
	for i, u := range p.Units {
		p.Units[i].Feeds, p.Units[i].Curve = slices.Clone(u.Feeds), slices.Clone(u.Curve)
	}
	return p
}

func samePlan(p, q api.Plan) bool {
	return p.Shafts == q.Shafts && slices.Equal(p.Outputs, q.Outputs) && slices.EqualFunc(p.Units, q.Units, func(u, v api.Unit) bool {
		return u.Kind == v.Kind && u.Out == v.Out && u.Start == v.Start && slices.Equal(u.Feeds, v.Feeds) && slices.Equal(u.Curve, v.Curve)
	})
}

func expectPlan(t *testing.T, what string, got api.Plan, err api.Errno, want api.Plan, wantError api.Errno) {
	t.Helper()
	if !samePlan(got, want) || err != wantError {
		t.Errorf("%s: got %v and the error %d, want %v and %d", what, got, err, want, wantError)
	}
}

// somePlan returns a plan of some units with small numbers, whose shafts and units are in any order.
func somePlan(t *testing.T, r *rand.Rand, units int) api.Plan {
	t.Helper()
	number := append([]int{0}, r.Perm(units)...) // of the shafts
	p := api.Plan{Shafts: units + 1, Outputs: []int{r.Intn(units + 1)}}
	starts := []*big.Rat{new(big.Rat)}
	for i := range units {
		if i == 0 {
			for k := range number[1:] {
				number[k+1]++
			}
		}
		count, shafts, ratios := 1, []int{}, []api.Rat{}
		u := unit([]string{"integrator", "adder", "table", "table"}[r.Intn(4)], number[i+1], someNumber(r, 9), nil, nil)
		switch u.Kind {
		case "integrator":
			count = 2
		case "adder":
			count = 1 + r.Intn(3)
		}
		for range count {
			ratio := someRat(r, 9)
			if r.Intn(2) == 0 {
				ratio = "-" + ratio
			}
			shafts, ratios = append(shafts, r.Intn(i+1)), append(ratios, ratio)
		}
		if u.Kind == "table" {
			for range 1 + r.Intn(4) {
				u.Curve = append(u.Curve, someNumber(r, 5))
			}
			u.Start = ratOf(bigShown(u.Curve, ratios[0], starts[shafts[0]]))
		}
		starts = append(starts, bigOf(u.Start))
		for k, shaft := range shafts {
			u.Feeds = append(u.Feeds, api.Feed{Shaft: number[shaft], Ratio: ratios[k]})
		}
		p.Units = append(p.Units, u)
	}
	r.Shuffle(units, func(i, j int) { p.Units[i], p.Units[j] = p.Units[j], p.Units[i] })
	expectError(t, "CheckPlan of somePlan", plan.CheckPlan(p), api.OK)
	return p
}

// bigShown returns the value of a curve where a shaft is that feeds it with a ratio.
func bigShown(curve []api.Rat, ratio api.Rat, position *big.Rat) *big.Rat {
	at, power, sum := new(big.Rat).Mul(bigOf(ratio), position), big.NewRat(1, 1), new(big.Rat)
	for _, c := range curve {
		sum.Add(sum, new(big.Rat).Mul(bigOf(c), power))
		power.Mul(power, at)
	}
	return sum
}

// wrongPlan is ErrRange, and wrongTrains are ErrMany if they are as many as the feeds of mixed.
func wrongPlan() api.Plan        { return api.Plan{} }
func wrongTrains() [][]api.Pair  { return slices.Repeat([][]api.Pair{make([]api.Pair, 5)}, 8) }
func simpleTrains() [][]api.Pair { return make([][]api.Pair, 8) }

func TestEquip(t *testing.T) {
	stock := wheels(2, 20, 1, 30, 1, 50)
	got, err := Equip(mixed(), stock, 1)
	expectTrains(t, "Equip", got, err, [][]api.Pair{pairs(20, 50), nil, pairs(20, 30), nil, nil, nil, nil, nil}, api.OK)
	got, err = Equip(mixed(), wheels(9, 20, 9, 30, 9, 50), 2)
	expectTrains(t, "Equip from a larger stock", got, err, [][]api.Pair{pairs(20, 30, 20, 30), nil, pairs(20, 30), pairs(50, 20), nil, pairs(20, 50), pairs(20, 30, 20, 30), pairs(50, 20, 50, 30)}, api.OK)
	got, err = Equip(mixed(), stock, 0)
	expectTrains(t, "Equip without pairs", got, err, simpleTrains(), api.OK)
	got, err = Equip(api.Plan{Shafts: 1}, stock, 4)
	expectTrains(t, "Equip of no unit", got, err, nil, api.OK)
	got, err = Equip(mixed(), kinds(11), 4)
	expectTrains(t, "Equip with 11 kinds", got, err, nil, api.ErrLimit)
	for _, row := range []struct {
		what  string
		p     api.Plan
		stock []api.Wheel
		pairs int
		want  api.Errno
	}{
		{"a wrong plan", wrongPlan(), nil, -1, api.ErrRange}, {"no stock", mixed(), nil, -1, api.ErrEmpty}, {"a wrong stock", mixed(), wheels(1, 20, 1, 20), -1, api.ErrOrder}, {"-1 pairs", mixed(), kinds(32), -1, api.ErrRange}, {"5 pairs", mixed(), kinds(32), 5, api.ErrRange}, {"32 kinds", mixed(), kinds(32), 3, api.ErrLimit},
	} {
		got, err := Equip(row.p, row.stock, row.pairs)
		expectTrains(t, "Equip: "+row.what, got, err, nil, row.want)
	}
	r := rand.New(rand.NewSource(12))
	for range 150 {
		p, stock, most := somePlan(t, r, 1+r.Intn(4)), someStock(r, 4), r.Intn(3)
		var want [][]api.Pair
		for _, u := range p.Units {
			for _, f := range u.Feeds {
				ratio := bigOf(f.Ratio)
				train := nearestOf(slices.DeleteFunc(trainsOf(stock, most), func(x []api.Pair) bool { return !isBuilt(stock, append(slices.Clone(want), x)...) }), ratOf(ratio.Abs(ratio)))
				want = append(want, train)
			}
		}
		got, err := Equip(p, stock, most)
		expectTrains(t, "Equip", got, err, want, api.OK)
	}
}

func TestReplace(t *testing.T) {
	trains := exact(mixed())
	trains[0], trains[1] = pairs(20, 40, 20, 30), pairs(10, 5) // 1/3, and 2 instead of 1
	trains[2], trains[4], trains[6], trains[7] = nil, pairs(1, 3), pairs(400, 1, 400, 1, 400, 1, 400, 1), pairs(1, 2)
	want := copyOf(mixed())
	want.Units[0].Feeds[0].Ratio, want.Units[0].Start = "1/3", "25/9" // the square of a third of 5
	want.Units[1].Feeds[0].Ratio, want.Units[1].Start = "-2", "5"     // 1 + 4
	want.Units[2].Feeds[0].Ratio, want.Units[2].Feeds[2].Ratio = "1", "1/3"
	want.Units[3].Feeds[1].Ratio = "25600000000"
	want.Units[4].Feeds[0].Ratio = "1/2"
	got, err := Replace(mixed(), trains)
	expectPlan(t, "Replace", got, err, want, api.OK)
	got, err = Replace(api.Plan{Shafts: 1, Outputs: []int{0}}, nil)
	expectPlan(t, "Replace of no unit", got, err, api.Plan{Shafts: 1, Outputs: []int{0}}, api.OK)
	expectPlanErrors(t, "Replace", func(p api.Plan, trains [][]api.Pair) api.Errno {
		got, err := Replace(p, trains)
		if err != api.OK {
			expectPlan(t, "Replace", got, err, api.Plan{}, err)
		}
		return err
	})
	r := rand.New(rand.NewSource(13))
	for range 500 {
		p := somePlan(t, r, 1+r.Intn(7))
		trains := exact(p)
		for i := range trains {
			if r.Intn(2) == 0 {
				trains[i] = someTrain(r)
			}
		}
		q, err := Replace(p, trains)
		expectError(t, "Replace", err, api.OK)
		expectReplaced(t, p, q, trains)
	}
}

// expectReplaced reports a plan that has not the ratios of trains, or another difference to the one before.
func expectReplaced(t *testing.T, p, q api.Plan, trains [][]api.Pair) {
	t.Helper()
	expectError(t, "CheckPlan of a replaced plan", plan.CheckPlan(q), api.OK)
	like := copyOf(p)
	for i, u := range like.Units {
		for j := range u.Feeds {
			ratio := bigRatio(trains[0])
			if bigOf(u.Feeds[j].Ratio).Sign() < 0 {
				ratio.Neg(ratio)
			}
			u.Feeds[j].Ratio = ratOf(ratio)
			trains = trains[1:]
		}
		if u.Kind == "table" {
			like.Units[i].Start = q.Units[i].Start // CheckPlan compares it with the curve
		}
	}
	expectPlan(t, "Replace", q, api.OK, like, api.OK)
}

// expectPlanErrors has the errors of a plan and of trains for it.
func expectPlanErrors(t *testing.T, what string, call func(p api.Plan, trains [][]api.Pair) api.Errno) {
	t.Helper()
	third := simpleTrains()
	third[2], third[5] = pairs(20, 401), make([]api.Pair, 5)
	for _, row := range []struct {
		what   string
		p      api.Plan
		trains [][]api.Pair
		want   api.Errno
	}{
		{"a wrong plan", wrongPlan(), wrongTrains(), api.ErrRange}, {"too few trains", mixed(), wrongTrains()[1:], api.ErrShape}, {"too many trains", mixed(), append(wrongTrains(), nil), api.ErrShape}, {"no trains", mixed(), nil, api.ErrShape}, {"a train for no feed", api.Plan{Shafts: 1}, [][]api.Pair{nil}, api.ErrShape},
		{"wrong trains", mixed(), wrongTrains(), api.ErrMany}, {"the first wrong train", mixed(), third, api.ErrRange}, {"right trains", mixed(), simpleTrains(), api.OK},
	} {
		expectError(t, what+": "+row.what, call(row.p, row.trains), row.want)
	}
}

// TestLongStarts has starts of tables with as many digits as are permitted, and more.
func TestLongStarts(t *testing.T) {
	nines := digits("9", 600)
	p := api.Plan{Shafts: 4, Units: []api.Unit{
		unit("table", 3, "5", []int{2}, []api.Rat{"1"}, "5"),
		unit("table", 2, nines, []int{1}, []api.Rat{"1"}, "0", "1"),
		unit("adder", 1, nines, []int{0}, []api.Rat{"1"}),
	}}
	q, err := Replace(p, [][]api.Pair{pairs(400, 1), nil, pairs(2, 1)})
	want := copyOf(p) // the product of the first feed is too long, but its table shows the same
	want.Units[0].Feeds[0].Ratio, want.Units[2].Feeds[0].Ratio = "400", "2"
	expectPlan(t, "Replace with a long product", q, err, want, api.OK)
	q, err = Replace(p, [][]api.Pair{nil, pairs(2, 1), nil})
	expectPlan(t, "Replace with a start that is too long", q, err, api.Plan{}, api.ErrLarge)
	q, err = Replace(p, [][]api.Pair{nil, pairs(2, 1), make([]api.Pair, 5)})
	expectPlan(t, "Replace with a train that is too long", q, err, api.Plan{}, api.ErrMany)
}

func TestFactors(t *testing.T) {
	trains := exact(mixed())
	trains[0], trains[3] = pairs(20, 30), nil
	got, err := Factors(mixed(), trains)
	expectList(t, "Factors", got, err, []api.Rat{"4/3", "1", "1", "2/5", "1", "1", "1", "1"}, api.OK)
	got, err = Factors(api.Plan{Shafts: 1}, nil)
	expectList(t, "Factors of no unit", got, err, nil, api.OK)
	expectPlanErrors(t, "Factors", func(p api.Plan, trains [][]api.Pair) api.Errno {
		got, err := Factors(p, trains)
		if err != api.OK && got != nil {
			t.Errorf("Factors: %v beside the error %d", got, err)
		}
		return err
	})
	nines := digits("9", 600)
	p := api.Plan{Shafts: 2, Units: []api.Unit{unit("adder", 1, "0", []int{0, 0}, []api.Rat{"-1/" + nines, "1"})}}
	got, err = Factors(p, [][]api.Pair{nil, nil})
	expectList(t, "Factors of a long ratio", got, err, []api.Rat{nines, "1"}, api.OK)
	got, err = Factors(p, [][]api.Pair{pairs(2, 1), nil})
	expectList(t, "Factors of a ratio that is too long", got, err, nil, api.ErrLarge)
	r := rand.New(rand.NewSource(14))
	for range 300 {
		p := somePlan(t, r, 1+r.Intn(5))
		trains := exact(p)
		var want []api.Rat
		for _, u := range p.Units {
			for _, f := range u.Feeds {
				i := len(want)
				trains[i] = someTrain(r)
				ratio := bigOf(f.Ratio)
				want = append(want, ratOf(ratio.Quo(bigRatio(trains[i]), ratio.Abs(ratio))))
			}
		}
		got, err := Factors(p, trains)
		expectList(t, "Factors", got, err, want, api.OK)
	}
}
