package scale

import (
	"math/big"
	"math/rand"
	"slices"
	"testing"

	"integraph/api"
	"integraph/plan"
)

// seriesOf returns the Taylor coefficients of all shafts of a plan, as functions of the position of shaft 0, with so
// many of them for each shaft. Each round of the units in their order makes at least one more coefficient of each right.
func seriesOf(t *testing.T, p api.Plan, count int) [][]*big.Rat {
	t.Helper()
	order, err := plan.Order(p)
	expectError(t, "Order", err, api.OK)
	all := make([][]*big.Rat, p.Shafts)
	for s := range all {
		all[s] = zeros(count)
	}
	if count > 1 {
		all[0][1].SetInt64(1)
	}
	for range count {
		for _, i := range order {
			u := p.Units[i]
			var feeds [][]*big.Rat
			for _, f := range u.Feeds {
				feeds = append(feeds, times(all[f.Shaft], []*big.Rat{bigOf(f.Ratio)}))
			}
			sum := zeros(count)
			switch u.Kind {
			case "integrator": // the coefficient j of the rate of the product, over j
				for j := 1; j < count; j++ {
					for k := 1; k <= j; k++ {
						part := new(big.Rat).Mul(feeds[0][j-k], feeds[1][k])
						sum[j].Add(sum[j], part.Mul(part, big.NewRat(int64(k), int64(j))))
					}
				}
			case "adder":
				for _, f := range feeds {
					sum = plus(sum, f)
				}
			case "table":
				power := append([]*big.Rat{big.NewRat(1, 1)}, zeros(count-1)...)
				for _, c := range u.Curve {
					sum = plus(sum, times(power, []*big.Rat{bigOf(c)}))
					power = times(power, feeds[0])
				}
			}
			sum[0] = bigOf(u.Start)
			all[u.Out] = sum
		}
	}
	return all
}

// zeros returns a series of 0.
func zeros(count int) []*big.Rat {
	var list []*big.Rat
	for range count {
		list = append(list, new(big.Rat))
	}
	return list
}

// plus returns the sum of two series of the same length.
func plus(a, b []*big.Rat) []*big.Rat {
	sum := zeros(len(a))
	for i := range sum {
		sum[i].Add(a[i], b[i])
	}
	return sum
}

// times returns the product of two series, with as many coefficients as the first one has.
func times(a, b []*big.Rat) []*big.Rat {
	product := zeros(len(a))
	for i, x := range a {
		for j := 0; j < len(b) && i+j < len(a); j++ {
			product[i+j].Add(product[i+j], new(big.Rat).Mul(x, b[j]))
		}
	}
	return product
}

func TestScaled(t *testing.T) {
	p, _, _ := mixed()
	got, err := Scaled(p, []api.Rat{"1", "-2", "3", "1/5", "7"})
	want := lineUp([]int{3, 1}, "table 4 63/4 3*5/2 : 0 0 7", "adder 3 3/5 1*1/15 0*-1/2 1*-1/10", "integrator 1 -2 4*4/35 0*3/7", "table 2 -21/2 0*4 : -21/2 6")
	expectPlan(t, "Scaled", got, err, want, api.OK)
	got, err = Scaled(p, []api.Rat{"1", "1", "1", "1", "1"})
	expectPlan(t, "Scaled by 1", got, err, p, api.OK)
	double := lineUp([]int{2}, "integrator 1 1 2*1/3 0*5", "integrator 2 4 1*7 1*1/2")
	got, err = Scaled(double, []api.Rat{"1", "3", "1/2"}) // the second one has another variable than t
	expectPlan(t, "Scaled integrators", got, err, lineUp([]int{2}, "integrator 1 3 2*2 0*5", "integrator 2 2 1*7/18 1*1/2"), api.OK)
	alone := api.Plan{Shafts: 1, Outputs: []int{0}}
	got, err = Scaled(alone, []api.Rat{"1"})
	expectPlan(t, "Scaled without units", got, err, alone, api.OK)
	nines := digits("9", 600)
	for _, row := range []struct {
		what    string
		p       api.Plan
		factors []api.Rat
		want    api.Errno
	}{
		{"a wrong plan", api.Plan{}, nil, api.ErrRange}, {"no factors", p, nil, api.ErrShape}, {"too few factors", p, []api.Rat{"2", "x", "1", "1"}, api.ErrShape}, {"too many factors", p, []api.Rat{"2", "x", "1", "1", "1", "1"}, api.ErrShape},
		{"no number", p, []api.Rat{"2", "1", "2/4", "0", "1"}, api.ErrForm}, {"a long number", p, []api.Rat{"2", "1", nines + "9", "0", "1"}, api.ErrLarge}, {"the factor 0", p, []api.Rat{"2", "1", "0", "x", "1"}, api.ErrZero}, {"the first factor 0", p, []api.Rat{"0", "1", "1", "x", "1"}, api.ErrZero}, {"no number as the first factor", p, []api.Rat{"", "1", "0", "1", "1"}, api.ErrForm},
		{"another unit of t", p, []api.Rat{"2", "1", "1", "1", "1"}, api.ErrRange}, {"the other direction of t", p, []api.Rat{"-1", "1", "1", "1", "1"}, api.ErrRange}, {"the last factor in front of the first one", p, []api.Rat{"2", "1", "1", "1", "0"}, api.ErrZero},
		{"a start that is too long", lineUp(nil, "adder 1 2 0*1"), []api.Rat{"1", nines}, api.ErrLarge}, {"a start with as many digits as are permitted", lineUp(nil, "adder 1 2 0*1"), []api.Rat{"1", digits("4", 600)}, api.OK},
		{"a ratio that is too long", lineUp(nil, "adder 1 0 0*2"), []api.Rat{"1", nines}, api.ErrLarge}, {"a ratio of an integrator that is too long", lineUp(nil, "integrator 1 0 0*2 0*1"), []api.Rat{"1", nines}, api.ErrLarge}, {"a coefficient that is too long", lineUp(nil, "table 1 0 0*1 : 0 2"), []api.Rat{"1", nines}, api.ErrLarge}, {"numbers that are not too long", lineUp(nil, "adder 1 0 0*1/3", "table 2 0 1*1 : 0 1", "integrator 3 0 2*2 0*1"), []api.Rat{"1", nines, digits("6", 600), digits("3", 600)}, api.OK},
		{"a denominator that is too long", lineUp(nil, "adder 1 0 0*1/2"), []api.Rat{"1", "1/" + nines}, api.ErrLarge}, {"a factor of a feed that is too long", lineUp(nil, "adder 1 0 0*1", "table 2 0 1*2 : 0 1"), []api.Rat{"1", "1/" + nines, "1"}, api.ErrLarge},
	} {
		got, err := Scaled(row.p, row.factors)
		expectError(t, "Scaled: "+row.what, err, row.want)
		if err != api.OK && !samePlan(got, api.Plan{}) {
			t.Errorf("Scaled: %s: a plan beside an error", row.what)
		}
	}
	r := rand.New(rand.NewSource(9))
	for range 500 {
		p := somePlan(t, r, 1+r.Intn(6))
		factors := []api.Rat{"1"}
		for range p.Shafts - 1 {
			factors = append(factors, someRatio(r, 7))
		}
		q, err := Scaled(p, factors)
		expectError(t, "Scaled", err, api.OK)
		expectError(t, "CheckPlan of a scaled plan", plan.CheckPlan(q), api.OK)
		before, behind := seriesOf(t, p, 5), seriesOf(t, q, 5)
		for s := range before {
			for j := range before[s] {
				if want := new(big.Rat).Mul(before[s][j], bigOf(factors[s])); behind[s][j].Cmp(want) != 0 {
					t.Errorf("the coefficient %d of the shaft %d of %v is %v, want %v", j, s, q, behind[s][j], want)
				}
			}
		}
		expectSameUnits(t, p, q)
		for i, u := range q.Units {
			if u.Kind == "integrator" && u.Feeds[1].Ratio != p.Units[i].Feeds[1].Ratio {
				t.Errorf("the second ratio of %v has become another one in %v", p.Units[i], u)
			}
			if u.Kind == "table" {
				for j, c := range u.Curve {
					if c != product(p.Units[i].Curve[j], bigOf(factors[u.Out])) {
						t.Errorf("the curve of %v has become that of %v", p.Units[i], u)
					}
				}
			}
		}
	}
}

// expectSameUnits reports plans that differ in more than their numbers.
func expectSameUnits(t *testing.T, p, q api.Plan) {
	t.Helper()
	q = copyOf(q)
	for i, u := range q.Units {
		if i >= len(p.Units) || len(u.Feeds) != len(p.Units[i].Feeds) || len(u.Curve) != len(p.Units[i].Curve) {
			t.Errorf("%v and %v have other units", p, q)
			return
		}
		for j := range u.Feeds {
			u.Feeds[j].Ratio = p.Units[i].Feeds[j].Ratio
		}
		copy(u.Curve, p.Units[i].Curve)
		q.Units[i].Start = p.Units[i].Start
	}
	expectPlan(t, "another plan", q, api.OK, p, api.OK)
}

// agreedSetup returns a set-up whose equations hold, also where it does not fit.
func agreedSetup(r *rand.Rand, p api.Plan, b api.Bench) api.Setup {
	s := someSetup(r, p, b)
	for i, u := range p.Units {
		switch u.Kind {
		case "adder":
			s.Inputs[i] = slices.Repeat([]int{s.Shafts[u.Out]}, len(u.Feeds))
		case "integrator":
			s.Inputs[i][1] = s.Shafts[u.Out] + b.Constant - s.Inputs[i][0]
		}
	}
	return s
}

func TestGeared(t *testing.T) {
	p, _, b := growth()
	got, err := Geared(p, b, api.Setup{Shafts: []int{9, 6}, Inputs: [][]int{{2, 7}}})
	expectPlan(t, "Geared of growth", got, err, lineUp([]int{1}, "integrator 1 64 1*1/128 0*1/4"), api.OK)
	series, want := seriesOf(t, got, 6)[1], big.NewRat(64, 1)
	for j, c := range series {
		if c.Cmp(want) != 0 {
			t.Errorf("the coefficient %d of example 5 is %v, want %v", j, c, want)
		}
		want.Quo(want, big.NewRat(512*int64(j+1), 1))
	}
	p, _, b = mixed()
	got, err = Geared(p, b, mixedSetup())
	expectPlan(t, "Geared of mixed", got, err, lineUp([]int{3, 1}, "table 4 18 3*4 : 0 0 1/8192", "adder 3 96 1*-1/6 0*-5/16 1*1/4", "integrator 1 128 4*-1/5 0*3/56", "table 2 -224 0*2 : -224 1"), api.OK)
	alone := api.Plan{Shafts: 1, Outputs: []int{0}}
	got, err = Geared(alone, b, api.Setup{Shafts: []int{-40}})
	expectPlan(t, "Geared without units", got, err, alone, api.OK)
	steep := lineUp(nil, "table 1 0 0*1 : 0 0 0 0 0 0 0 0 0 0 0 0 1")
	got, err = Geared(steep, api.Bench{}, api.Setup{Shafts: []int{-40, 40}, Inputs: [][]int{{-40}}})
	steep.Units[0].Curve[12] = ratOf(bigPower(520))
	expectPlan(t, "Geared of a steep table", got, err, steep, api.OK)

	for _, row := range []struct {
		what   string
		change func(s *api.Setup)
		want   api.Errno
	}{
		{"an integrator", func(s *api.Setup) { s.Inputs[2][1] = 6 }, api.ErrConflict}, {"another integrator", func(s *api.Setup) { s.Inputs[2][0] = 3 }, api.ErrConflict}, {"an adder", func(s *api.Setup) { s.Inputs[1][2] = 6 }, api.ErrConflict}, {"a table", func(s *api.Setup) { s.Inputs[3][0], s.Shafts[2] = 40, -40 }, api.OK}, {"limits and gears", func(s *api.Setup) { s.Inputs[2], s.Shafts[4] = []int{-31, 40}, 40 }, api.OK},
	} {
		s := mixedSetup()
		row.change(&s)
		got, err := Geared(p, b, s)
		expectError(t, "Geared: "+row.what, err, row.want)
		if err != api.OK && !samePlan(got, api.Plan{}) {
			t.Errorf("Geared: %s: a plan beside an error", row.what)
		}
	}
	for _, row := range []struct {
		what   string
		p      api.Plan
		shafts []int
		inputs []int
		want   api.Errno
	}{
		{"a start", lineUp(nil, "adder 1 "+string(digits("6", 600))+" 0*1"), []int{0, 1}, []int{1}, api.ErrLarge}, {"a start that is not too long", lineUp(nil, "adder 1 "+string(digits("4", 600))+" 0*1"), []int{0, 1}, []int{1}, api.OK}, {"a ratio", lineUp(nil, "adder 1 0 0*"+string(digits("6", 600))), []int{0, 1}, []int{1}, api.ErrLarge}, {"a coefficient", lineUp(nil, "table 1 0 0*1 : 0 1/"+string(digits("7", 600))), []int{0, 0}, []int{1}, api.ErrLarge}, {"one that is not too long", lineUp(nil, "table 1 0 0*1 : 0 1/"+string(digits("3", 600))), []int{0, 0}, []int{1}, api.OK},
	} {
		_, err := Geared(row.p, api.Bench{}, api.Setup{Shafts: row.shafts, Inputs: [][]int{row.inputs}})
		expectError(t, "Geared with a long number: "+row.what, err, row.want)
	}
	r := rand.New(rand.NewSource(10))
	for range 500 {
		p, b := somePlan(t, r, 1+r.Intn(6)), someBench(r)
		s := agreedSetup(r, p, b)
		q, err := Geared(p, b, s)
		expectError(t, "Geared", err, api.OK)
		expectError(t, "CheckPlan of a plan in turns", plan.CheckPlan(q), api.OK)
		expectSameUnits(t, p, q)
		expectInTurns(t, p, b, s, q)
	}
}

// expectInTurns reports a plan that is not the one in turns: its ratios are not the gear ratios, or its Taylor
// coefficients not those of the plan in turns.
func expectInTurns(t *testing.T, p api.Plan, b api.Bench, s api.Setup, q api.Plan) {
	t.Helper()
	want, err := Ratios(p, s)
	expectError(t, "Ratios", err, api.OK)
	for i, u := range q.Units {
		if u.Kind == "integrator" {
			want[i][0] = product(want[i][0], bigPower(-b.Constant))
		}
		for j, f := range u.Feeds {
			if f.Ratio != want[i][j] {
				t.Errorf("the feed %d of %v is geared to %s, want %s", j, u, f.Ratio, want[i][j])
			}
		}
	}
	before, behind := seriesOf(t, p, 5), seriesOf(t, q, 5)
	for shaft := range before {
		for j := range before[shaft] {
			turns := new(big.Rat).Mul(before[shaft][j], bigPower(s.Shafts[shaft]-j*s.Shafts[0]))
			if behind[shaft][j].Cmp(turns) != 0 {
				t.Errorf("the coefficient %d of the shaft %d of %v is %v, want %v", j, shaft, q, behind[shaft][j], turns)
			}
		}
	}
}
