package scale

import (
	"math/big"
	"math/rand"
	"testing"

	"integraph/api"
)

// fitsBy returns the error of a set-up with exponents in their range, by the definition.
func fitsBy(p api.Plan, ranges []api.Span, b api.Bench, s api.Setup) api.Errno {
	isLarge, isConflict, isGear := false, false, false
	for i, r := range ranges {
		isLarge = isLarge || !isBelow(s.Shafts[i], bigLargest(r), b.Shaft)
	}
	for i, u := range p.Units {
		l := s.Inputs[i]
		for j, f := range u.Feeds {
			most := b.Shaft
			if u.Kind == "integrator" && j == 0 {
				most = b.Disc
			}
			isLarge = isLarge || !isBelow(l[j], bigTurns(ranges, f), most)
			isConflict = isConflict || u.Kind == "adder" && l[j] != s.Shafts[u.Out]
			gear := l[j] - s.Shafts[f.Shaft]
			isGear = isGear || gear > b.Gear || -gear > b.Gear
		}
		isConflict = isConflict || u.Kind == "integrator" && l[0]+l[1]-b.Constant != s.Shafts[u.Out]
	}
	switch {
	case isLarge:
		return api.ErrLarge
	case isConflict:
		return api.ErrConflict
	case isGear:
		return api.ErrInfeasible
	}
	return api.OK
}

func TestCheckSetup(t *testing.T) {
	p, ranges, b := growth()
	for _, row := range []struct {
		what   string
		shafts []int
		inputs []int
		want   api.Errno
	}{
		{"the greatest set-up", []int{9, 6}, []int{2, 7}, api.OK}, {"a smaller one", []int{8, 5}, []int{2, 6}, api.OK}, {"one that is not full", []int{8, 5}, []int{1, 7}, api.OK},
		{"a shaft above its limit", []int{10, 6}, []int{2, 7}, api.ErrLarge}, {"another one", []int{9, 8}, []int{2, 9}, api.ErrLarge}, {"a disc above its limit", []int{9, 6}, []int{3, 6}, api.ErrLarge}, {"a variable above its limit", []int{9, 7}, []int{0, 10}, api.ErrLarge},
		{"an integrator that is too fast", []int{9, 7}, []int{2, 7}, api.ErrConflict}, {"one that is too slow", []int{9, 5}, []int{2, 7}, api.ErrConflict},
		{"a gear of -5 to the disc", []int{9, 7}, []int{2, 8}, api.ErrInfeasible}, {"a gear of 5 to the disc", []int{-1, -5}, []int{0, -2}, api.ErrInfeasible}, {"a gear of 4 to the disc", []int{-1, -4}, []int{0, -1}, api.OK}, {"a gear of -5 to the variable", []int{9, 2}, []int{1, 4}, api.ErrInfeasible}, {"a gear of 5 to the variable", []int{2, 6}, []int{2, 7}, api.ErrInfeasible}, {"a gear of 4 to the variable", []int{3, 6}, []int{2, 7}, api.OK},
		{"a limit in front of all others", []int{10, -20}, []int{2, 7}, api.ErrLarge}, {"a conflict in front of a gear", []int{9, -20}, []int{2, 7}, api.ErrConflict},
	} {
		expectError(t, "CheckSetup of growth: "+row.what, CheckSetup(p, ranges, b, api.Setup{Shafts: row.shafts, Inputs: [][]int{row.inputs}}), row.want)
	}
	p, ranges, b = mixed()
	for _, row := range []struct {
		what   string
		change func(s *api.Setup)
		want   api.Errno
	}{
		{"nothing", func(s *api.Setup) {}, api.OK}, {"an input of a table above its limit", func(s *api.Setup) { s.Inputs[3][0] = 8 }, api.ErrLarge}, {"an input of an adder above its limit", func(s *api.Setup) { s.Shafts[3], s.Inputs[1] = 6, []int{6, 8, 6} }, api.ErrLarge},
		{"the last shaft above its limit", func(s *api.Setup) { s.Shafts[4] = 8 }, api.ErrLarge}, {"the last input of an adder", func(s *api.Setup) { s.Inputs[1][2] = 4 }, api.ErrConflict}, {"the shaft of an adder", func(s *api.Setup) { s.Shafts[3] = 4 }, api.ErrConflict}, {"the shaft of a table", func(s *api.Setup) { s.Shafts[2] = -40 }, api.OK},
		{"a gear of 5 at a table", func(s *api.Setup) { s.Inputs[3][0] = 3 }, api.OK}, {"a gear of 6 at a table", func(s *api.Setup) { s.Inputs[3][0] = 2 }, api.ErrInfeasible}, {"a gear of 6 at an adder", func(s *api.Setup) { s.Shafts[3], s.Inputs[1], s.Inputs[0][0] = 1, []int{1, 1, 1}, 2 }, api.ErrInfeasible},
		{"a conflict in front of a gear in a unit before it", func(s *api.Setup) { s.Inputs[0][0], s.Inputs[1][0] = -1, 4 }, api.ErrConflict}, {"a limit behind a conflict", func(s *api.Setup) { s.Inputs[1][0], s.Inputs[3][0] = 4, 8 }, api.ErrLarge},
	} {
		s := mixedSetup()
		row.change(&s)
		expectError(t, "CheckSetup of mixed: "+row.what, CheckSetup(p, ranges, b, s), row.want)
	}
	r := rand.New(rand.NewSource(4))
	counts := map[api.Errno]int{}
	for range 3000 {
		p := somePlan(t, r, 1+r.Intn(3))
		ranges, b := someRanges(r, p.Shafts), someBench(r)
		s := someSetup(r, p, b)
		want := fitsBy(p, ranges, b, s)
		expectError(t, "CheckSetup", CheckSetup(p, ranges, b, s), want)
		counts[want]++
	}
	for _, err := range []api.Errno{api.OK, api.ErrLarge, api.ErrConflict, api.ErrInfeasible} {
		if counts[err] < 100 {
			t.Errorf("only %d set-ups have the error %d", counts[err], err)
		}
	}
}

// someSetup returns a set-up whose equations mostly hold, and whose gears are mostly small.
func someSetup(r *rand.Rand, p api.Plan, b api.Bench) api.Setup {
	var s api.Setup
	low := r.Intn(16) - 12
	for range p.Shafts {
		s.Shafts = append(s.Shafts, low+r.Intn(5))
	}
	for _, u := range p.Units {
		var l []int
		for range u.Feeds {
			l = append(l, s.Shafts[u.Out])
		}
		switch {
		case u.Kind == "table":
			l[0] = low + r.Intn(5)
		case u.Kind == "integrator":
			l[0] = low + r.Intn(5)
			l[1] = s.Shafts[u.Out] + b.Constant - l[0]
		}
		if r.Intn(8) == 0 {
			l[r.Intn(len(l))]++
		}
		s.Inputs = append(s.Inputs, l)
	}
	return s
}

func TestBest(t *testing.T) {
	p, ranges, b := growth()
	got, err := Best(p, ranges, b)
	expectSetup(t, "Best of growth", got, err, api.Setup{Shafts: []int{9, 6}, Inputs: [][]int{{2, 7}}}, api.OK)
	b.Gear = 0
	got, err = Best(p, ranges, b)
	expectSetup(t, "Best of growth without gears", got, err, api.Setup{Shafts: []int{3, 2}, Inputs: [][]int{{2, 3}}}, api.OK)
	b.Constant = 40
	got, err = Best(p, ranges, b)
	expectSetup(t, "Best of growth with a slow integrator", got, err, api.Setup{}, api.ErrInfeasible)
	p, ranges, b = mixed()
	got, err = Best(p, ranges, b)
	expectSetup(t, "Best of mixed", got, err, api.Setup{Shafts: []int{9, 7, 6, 7, 7}, Inputs: [][]int{{8}, {7, 7, 7}, {5, 4}, {7}}}, api.OK)
	got, err = Best(api.Plan{Shafts: 1}, spans("-3", "3"), b)
	expectSetup(t, "Best without units", got, err, api.Setup{Shafts: []int{7}}, api.OK)
	got, err = Best(api.Plan{Shafts: 1}, spans("0", "0"), b)
	expectSetup(t, "Best of a shaft that stands", got, err, api.Setup{Shafts: []int{40}}, api.OK)
	for e := -50; e <= -46; e++ { // with Shaft 0, the limit is e + 9
		want, wantError := api.Setup{Shafts: []int{e + 9}}, api.OK
		if e+9 < -40 {
			want, wantError = api.Setup{}, api.ErrInfeasible
		}
		got, err = Best(api.Plan{Shafts: 1}, []api.Span{{Low: "0", High: ratOf(bigPower(-e))}}, api.Bench{Shaft: 9})
		expectSetup(t, "Best of a great range", got, err, want, wantError)
	}
	p = lineUp(nil, "table 1 0 0*1 : 0 1")
	got, err = Best(p, spans("0", "1", "0", "4"), api.Bench{Shaft: 5, Gear: 2})
	expectSetup(t, "Best of a table", got, err, api.Setup{Shafts: []int{5, 3}, Inputs: [][]int{{5}}}, api.OK)
	p = lineUp(nil, "table 1 0 0*64 : 0 1")
	got, err = Best(p, spans("0", "1", "0", "4"), api.Bench{Shaft: 5, Gear: 2})
	expectSetup(t, "Best of a table with a great ratio", got, err, api.Setup{Shafts: []int{1, 3}, Inputs: [][]int{{-1}}}, api.OK)
}

// TestBestOfAll compares with the list of all full set-ups that fit.
func TestBestOfAll(t *testing.T) {
	r := rand.New(rand.NewSource(5))
	found, none := 0, 0
	for i := range 530 {
		p := somePlan(t, r, 1+i/500)
		ranges, b := someRanges(r, p.Shafts), someBench(r)
		want := bestOf(p, ranges, b)
		got, err := Best(p, ranges, b)
		if want.Shafts == nil {
			expectSetup(t, "Best", got, err, api.Setup{}, api.ErrInfeasible)
			none++
			continue
		}
		expectSetup(t, "Best", got, err, want, api.OK)
		found++
	}
	if found < 100 || none < 30 {
		t.Errorf("there are %d set-ups, and none for %d plans", found, none)
	}
}

// bestOf returns the greatest exponents of all full set-ups that fit, if there are any.
func bestOf(p api.Plan, ranges []api.Span, b api.Bench) api.Setup {
	var best api.Setup
	most, inputs, _ := Limits(p, ranges, b)
	var visit func(shafts []int)
	visit = func(shafts []int) {
		if n := len(shafts); n < p.Shafts {
			for e := -40; e <= most[n]; e++ {
				visit(append(shafts[:n:n], e))
			}
			return
		}
		s := api.Setup{Shafts: shafts}
		for i, u := range p.Units {
			l := greatestInputs(u, shafts, inputs[i], b)
			if l == nil {
				return
			}
			s.Inputs = append(s.Inputs, l)
		}
		if best.Shafts == nil {
			best = copyOfSetup(s)
		}
		raise(best.Shafts, s.Shafts)
		for i := range s.Inputs {
			raise(best.Inputs[i], s.Inputs[i])
		}
	}
	visit(nil)
	return best
}

// greatestInputs returns the greatest exponents that the inputs of a unit can have in a full set-up with some shafts.
func greatestInputs(u api.Unit, shafts, most []int, b api.Bench) []int {
	l := make([]int, len(u.Feeds))
	for i := range l {
		l[i] = shafts[u.Out]
	}
	switch u.Kind {
	case "integrator":
		l = []int{most[0], shafts[u.Out] + b.Constant - most[0]}
	case "table":
		for l[0] = most[0]; l[0] > -40 && !isGeared(u, shafts, l, b); {
			l[0]--
		}
	}
	for i, e := range l {
		if e < -40 || e > most[i] || !isGeared(u, shafts, l, b) {
			return nil
		}
	}
	return l
}

func isGeared(u api.Unit, shafts, inputs []int, b api.Bench) bool {
	for i, f := range u.Feeds {
		if gear := inputs[i] - shafts[f.Shaft]; gear > b.Gear || -gear > b.Gear {
			return false
		}
	}
	return true
}

// raise makes exponents at least as great as others.
func raise(exponents, least []int) {
	for i, e := range least {
		exponents[i] = max(exponents[i], e)
	}
}

func TestRatios(t *testing.T) {
	p, _, _ := growth()
	got, err := Ratios(p, api.Setup{Shafts: []int{9, 6}, Inputs: [][]int{{2, 7}}})
	expectLists(t, "Ratios of growth", got, err, [][]api.Rat{{"1/16", "1/4"}}, api.OK)
	p, _, _ = mixed()
	got, err = Ratios(p, mixedSetup())
	expectLists(t, "Ratios of mixed", got, err, [][]api.Rat{{"4"}, {"-1/6", "-5/16", "1/4"}, {"-4/5", "3/56"}, {"2"}}, api.OK)
	got, err = Ratios(p, api.Setup{Shafts: []int{40, -40, 0, 0, 0}, Inputs: [][]int{{0}, {40, -40, 40}, {0, 0}, {0}}})
	far := bigPower(80)
	expectLists(t, "Ratios of a set-up that does not fit", got, err, [][]api.Rat{{"1/2"}, {product("-2/3", far), product("-5/2", far.Inv(far)), product("1", far.Inv(far))}, {"-2/5", product("3/7", bigPower(-40))}, {product("4", bigPower(-40))}}, api.OK)
	got, err = Ratios(api.Plan{Shafts: 1}, api.Setup{Shafts: []int{3}})
	expectLists(t, "Ratios without units", got, err, nil, api.OK)
	for _, row := range []struct {
		ratio api.Rat
		e     int
		want  api.Errno
	}{{digits("4", 600), 1, api.OK}, {digits("6", 600), 1, api.ErrLarge}, {"1/" + digits("3", 600), -1, api.OK}, {"1/" + digits("7", 600), -1, api.ErrLarge}} {
		p := lineUp(nil, "adder 1 0 0*1 0*"+string(row.ratio))
		got, err := Ratios(p, api.Setup{Shafts: []int{0, 0}, Inputs: [][]int{{0, row.e}}})
		expectError(t, "Ratios of a long number", err, row.want)
		if err != api.OK && got != nil {
			t.Errorf("%v beside an error", got)
		}
	}
	r := rand.New(rand.NewSource(6))
	for range 300 {
		p := somePlan(t, r, 1+r.Intn(6))
		s := someSetup(r, p, someBench(r))
		var want [][]api.Rat
		for i, u := range p.Units {
			var list []api.Rat
			for j, f := range u.Feeds {
				gear := new(big.Rat).Quo(bigPower(s.Inputs[i][j]), bigPower(s.Shafts[f.Shaft]))
				list = append(list, product(f.Ratio, gear))
			}
			want = append(want, list)
		}
		got, err := Ratios(p, s)
		expectLists(t, "Ratios", got, err, want, api.OK)
	}
}
