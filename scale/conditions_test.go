package scale

import (
	"math"
	"math/rand"
	"slices"
	"strconv"
	"testing"

	"integraph/api"
)

func TestConditions(t *testing.T) {
	p, ranges, b := growth()
	got, err := Conditions(p, ranges, b)
	expectList(t, "Conditions of growth", got, err, []Condition{{0, -1, 9}, {-1, 0, 40}, {1, -1, 7}, {-1, 1, 40}, {-1, -1, 42}, {1, -1, 6}, {-1, 1, 2}, {1, -1, 8}, {-1, 1, 41}, {1, 0, 3}, {0, 1, 5}}, api.OK)
	p, ranges, b = mixed()
	got, err = Conditions(p, ranges, b)
	expectList(t, "Conditions of mixed", got, err, []Condition{
		{0, -1, 9}, {-1, 0, 40}, {1, -1, 7}, {-1, 1, 40}, {2, -1, 6}, {-1, 2, 40}, {3, -1, 7}, {-1, 3, 40}, {4, -1, 7}, {-1, 4, 40},
		{5, -1, 8}, {-1, 5, 40}, {5, 3, 5}, {3, 5, 5}, // the first table
		{3, -1, 8}, {3, 1, 5}, {1, 3, 5}, {3, -1, 7}, {3, 0, 5}, {0, 3, 5}, {3, -1, 7}, {3, 1, 5}, {1, 3, 5}, // the adder
		{-1, -1, 45}, {4, -1, 10}, {-1, 4, 0}, {1, -1, 13}, {-1, 1, 37}, {1, 0, 8}, {0, 1, 2}, // the integrator, with 5 for its disc
		{6, -1, 7}, {-1, 6, 40}, {6, 0, 5}, {0, 6, 5}, // the second table
	}, api.OK)
	got, err = Conditions(api.Plan{Shafts: 1}, spans("0", ratOf(bigPower(100))), api.Bench{})
	expectList(t, "Conditions without units", got, err, []Condition{{0, -1, -100}, {-1, 0, 40}}, api.OK)
}

// TestMeaningOfConditions has the conditions, of which none is broken if and only if a full set-up fits.
func TestMeaningOfConditions(t *testing.T) {
	r := rand.New(rand.NewSource(7))
	fitting, others := 0, 0
	for range 4000 {
		p := somePlan(t, r, 1+r.Intn(4))
		ranges, b := someRanges(r, p.Shafts), someBench(r)
		list, err := Conditions(p, ranges, b)
		expectError(t, "Conditions", err, api.OK)
		_, most, _ := Limits(p, ranges, b)
		s, err := Best(p, ranges, b)
		if err != api.OK || r.Intn(9) == 0 {
			s = someSetup(r, p, b)
		}
		for i := range s.Shafts {
			s.Shafts[i] += (r.Intn(6) - 4) / 2
			if r.Intn(20) == 0 {
				s.Shafts[i] += 40 * (2*r.Intn(2) - 1)
			}
		}
		x := slices.Clone(s.Shafts) // and behind them the inputs of tables
		for i, u := range p.Units {
			if u.Kind == "table" {
				s.Inputs[i][0] += (r.Intn(6) - 4) / 2
				x = append(x, s.Inputs[i][0])
				continue
			}
			s.Inputs[i] = slices.Repeat([]int{s.Shafts[u.Out]}, len(u.Feeds))
			if u.Kind == "integrator" {
				s.Inputs[i] = []int{most[i][0], s.Shafts[u.Out] + b.Constant - most[i][0]}
			}
		}
		err = CheckSetup(p, ranges, b, s)
		if areKept(list, x) != (err == api.OK) {
			t.Errorf("the set-up %v of %v has the error %d; its conditions are %v", s, p, err, list)
		}
		if err == api.OK {
			fitting++
		} else {
			others++
		}
	}
	if fitting < 500 || others < 500 {
		t.Errorf("%d set-ups fit, and %d do not", fitting, others)
	}
}

// areKept reports whether exponents satisfy all conditions.
func areKept(list []Condition, x []int) bool {
	value := func(v int) int {
		if v < 0 {
			return 0
		}
		return x[v]
	}
	return !slices.ContainsFunc(list, func(c Condition) bool { return value(c.Less) > value(c.Than)+c.Most })
}

// greatestOf returns the greatest numbers that satisfy some conditions, or nil if none do: all sums of conditions over
// different ones, at last those over all of them.
func greatestOf(list []Condition, n int) []int {
	const far = math.MaxInt / 4
	least := make([][]int, n+1) // the least sums of conditions between two, -1 first
	for i := range least {
		least[i] = slices.Repeat([]int{far}, n+1)
		least[i][i] = 0
	}
	for _, c := range list {
		least[c.Than+1][c.Less+1] = min(least[c.Than+1][c.Less+1], c.Most)
	}
	for k := range least {
		for i := range least {
			for j := range least {
				least[i][j] = min(least[i][j], least[i][k]+least[k][j])
			}
		}
	}
	for i := range least {
		if least[i][i] < 0 {
			return nil
		}
	}
	return least[0][1:]
}

// slow returns a plan of one integrator behind another one, and behind each of them some adders in a row, in which all
// ranges are equal; its bench slows each integrator down by 2^2, and has no gears. So the integrators slow its shafts
// down step by step.
func slow(integrators, adders int) (api.Plan, []api.Span, api.Bench) {
	var lines []string
	shaft := 0
	for range integrators {
		next := strconv.Itoa(shaft + 1)
		lines = append(lines, "integrator "+next+" 0 0*1 "+strconv.Itoa(shaft)+"*1")
		for shaft++; shaft%(adders+1) != 0; shaft++ {
			lines = append(lines, "adder "+strconv.Itoa(shaft+1)+" 0 "+strconv.Itoa(shaft)+"*1")
		}
	}
	p := lineUp(nil, lines...)
	return p, slices.Repeat(spans("-1", "1"), p.Shafts), api.Bench{Constant: 12, Disc: 10, Shaft: 20, Gear: 0}
}

func TestRefuse(t *testing.T) {
	p, ranges, b := growth()
	got, err := Refuse(p, ranges, b)
	expectList(t, "Refuse of growth", got, err, nil, api.ErrNone)
	b.Gear, b.Constant = 0, 40
	got, err = Refuse(p, ranges, b)
	expectError(t, "Refuse of example 4", err, api.OK)
	if len(got) == 0 || !isCircle(t, p, ranges, b, got) {
		t.Errorf("%v is no circle with a negative sum", got)
	}
	got, err = Refuse(api.Plan{Shafts: 1}, spans("0", ratOf(bigPower(41))), api.Bench{})
	expectError(t, "Refuse of a great range", err, api.OK)
	if !slices.Equal(got, []int{0, 1}) && !slices.Equal(got, []int{1, 0}) {
		t.Errorf("%v are not the two conditions", got)
	}
	p, ranges, b = growth()
	ranges[1].High = ratOf(bigPower(46)) // the disc would have to have an exponent of -41
	got, err = Refuse(p, ranges, b)
	expectError(t, "Refuse of a disc", err, api.OK)
	if !isCircle(t, p, ranges, b, got) {
		t.Errorf("%v is no circle with a negative sum", got)
	}
	r := rand.New(rand.NewSource(8))
	refused := 0
	for range 1500 {
		p := somePlan(t, r, 1+r.Intn(6))
		ranges, b := someRanges(r, p.Shafts), someBench(r)
		list, _ := Conditions(p, ranges, b)
		want := greatestOf(list, p.Shafts+len(p.Units))
		s, err := Best(p, ranges, b)
		got, refuseError := Refuse(p, ranges, b)
		if want != nil {
			expectList(t, "Best", s.Shafts, err, want[:p.Shafts], api.OK)
			expectList(t, "Refuse", got, refuseError, nil, api.ErrNone)
			continue
		}
		refused++
		expectSetup(t, "Best", s, err, api.Setup{}, api.ErrInfeasible)
		expectError(t, "Refuse", refuseError, api.OK)
		if !isCircle(t, p, ranges, b, got) {
			t.Errorf("%v is no circle with a negative sum", got)
		}
	}
	if refused < 300 {
		t.Errorf("only %d plans are refused", refused)
	}
}

// isCircle reports whether some places of conditions are a circle with a negative sum, and CheckRefused says so.
func isCircle(t *testing.T, p api.Plan, ranges []api.Span, b api.Bench, circle []int) bool {
	t.Helper()
	expectError(t, "CheckRefused", CheckRefused(p, ranges, b, circle), api.OK)
	list, _ := Conditions(p, ranges, b)
	sum := 0
	for i, place := range circle {
		next := list[circle[(i+1)%len(circle)]]
		if next.Than != list[place].Less {
			return false
		}
		sum += list[place].Most
	}
	return sum < 0 && 0 < len(circle) && len(circle) <= 256
}

// TestLongCircles has plans in which all circles with a negative sum have many places.
func TestLongCircles(t *testing.T) {
	longest := 0
	for _, row := range []struct{ integrators, adders int }{{24, 0}, {24, 3}, {23, 2}, {12, 7}} {
		for _, constant := range []int{10, 11, 12, 13, 14, 20} {
			p, ranges, b := slow(row.integrators, row.adders)
			b.Constant = constant
			list, _ := Conditions(p, ranges, b)
			want := greatestOf(list, p.Shafts)
			s, err := Best(p, ranges, b)
			circle, refuseError := Refuse(p, ranges, b)
			if want != nil {
				expectList(t, "Best of a slow plan", s.Shafts, err, want, api.OK)
				expectError(t, "Refuse of a slow plan", refuseError, api.ErrNone)
				continue
			}
			expectError(t, "Best of a plan that is too slow", err, api.ErrInfeasible)
			if !isCircle(t, p, ranges, b, circle) {
				t.Errorf("%v is no circle with a negative sum", circle)
			}
			longest = max(longest, len(circle))
		}
	}
	if longest < 60 {
		t.Errorf("the longest circle has only %d places", longest)
	}
}

func TestCheckRefused(t *testing.T) {
	p, ranges, b := growth()
	b.Gear, b.Constant = 0, 40
	list, _ := Conditions(p, ranges, b) // 1 <= -29 at 7, and 0 <= 1 + (-2) at 6
	if list[7] != (Condition{1, -1, -29}) || list[6] != (Condition{-1, 1, -2}) {
		t.Fatalf("%v are not the conditions of example 4", list)
	}
	for _, row := range []struct {
		what   string
		circle []int
		want   api.Errno
	}{
		{"example 4", []int{7, 6}, api.OK}, {"from another one on", []int{6, 7}, api.OK}, {"twice around", []int{7, 6, 7, 6}, api.OK}, {"256 places", slices.Repeat([]int{7, 6}, 128), api.OK}, {"with a way round that does not help", []int{7, 6, 7, 6, 4}, api.OK}, {"with one that helps too much", []int{7, 6, 4}, api.ErrProof},
		{"nothing", nil, api.ErrEmpty}, {"257 places", slices.Repeat([]int{-1}, 257), api.ErrMany}, {"a place of no condition", []int{7, 11}, api.ErrUnknown}, {"a place below 0", []int{-1, 7}, api.ErrUnknown}, {"a far place", []int{7, 6, math.MaxInt}, api.ErrUnknown}, {"a far place below 0", []int{math.MinInt}, api.ErrUnknown}, {"no circle in front of no condition", []int{7, 7, 11}, api.ErrUnknown},
		{"one that is open", []int{7}, api.ErrProof}, {"the other one that is open", []int{6}, api.ErrProof}, {"one that is torn", []int{7, 6, 7}, api.ErrProof}, {"one that ends elsewhere", []int{6, 7, 9}, api.ErrProof}, {"one in the wrong direction", []int{10, 7, 1}, api.ErrProof}, {"one with a sum above 0", []int{4}, api.ErrProof}, {"another one", []int{0, 1}, api.ErrProof}, {"one that stays open", []int{6, 7, 6}, api.ErrProof},
	} {
		expectError(t, "CheckRefused: "+row.what, CheckRefused(p, ranges, b, row.circle), row.want)
	}
	alone := api.Plan{Shafts: 1}
	for _, row := range []struct {
		e    int
		want api.Errno
	}{{40, api.ErrProof}, {41, api.OK}, {39, api.ErrProof}} { // sums of 0, -1 and 1
		ranges := []api.Span{{Low: "0", High: ratOf(bigPower(row.e))}}
		expectError(t, "CheckRefused of a small sum", CheckRefused(alone, ranges, api.Bench{}, []int{1, 0}), row.want)
	}
	p, ranges, b = growth()
	for _, row := range []struct {
		e    int
		want api.Errno
	}{{45, api.ErrProof}, {46, api.OK}} {
		ranges[1].High = ratOf(bigPower(row.e))
		expectError(t, "CheckRefused of a disc", CheckRefused(p, ranges, b, []int{4}), row.want)
	}
	// Three conditions of a chain of adders: their order matters.
	p = lineUp(nil, "adder 1 0 0*1", "adder 2 0 1*1")
	list, _ = Conditions(p, spans("0", "1", "0", "1", "0", ratOf(bigPower(30))), api.Bench{Gear: 2})
	for a, one := range list {
		for b, two := range list {
			for c, three := range list {
				want := api.ErrProof
				if one.Than == three.Less && two.Than == one.Less && three.Than == two.Less && one.Most+two.Most+three.Most < 0 {
					want = api.OK
				}
				expectError(t, "CheckRefused of three", CheckRefused(p, spans("0", "1", "0", "1", "0", ratOf(bigPower(30))), api.Bench{Gear: 2}, []int{a, b, c}), want)
			}
		}
	}
}
