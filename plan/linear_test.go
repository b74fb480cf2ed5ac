package plan

import (
	"math/big"
	"math/rand"
	"slices"
	"strconv"
	"testing"

	"integraph/api"
	"integraph/exact"
	"integraph/generate"
)

// The tests of this file are those of P4.6.

func TestIsRegular(t *testing.T) {
	for _, row := range []struct {
		what string
		p    api.Plan
		want bool
		err  api.Errno
	}{
		{"the circle", circle(), true, api.OK}, {"the mixed plan", mixed(), false, api.OK}, {"no units", api.Plan{Shafts: 1}, true, api.OK}, {"an adder", lineUp(nil, "adder 1 0 0*1"), true, api.OK}, {"a table", lineUp(nil, "table 1 0 0*1 : 0 1"), false, api.OK}, {"a level table", lineUp(nil, "table 1 2 0*1 : 2"), false, api.OK},
		{"another ratio of t", lineUp(nil, "integrator 1 0 0*1 0*-3"), true, api.OK}, {"a multiple of t", lineUp(nil, "integrator 1 0 0*1 2*1", "adder 2 0 0*3"), false, api.OK}, {"the second integrator", lineUp(nil, "integrator 1 0 0*1 0*1", "integrator 2 0 0*1 1*1"), false, api.OK}, {"no plan", api.Plan{}, false, api.ErrRange}, {"a loop", lineUp(nil, "adder 1 0 1*1"), false, api.ErrLoop},
	} {
		got, err := IsRegular(row.p)
		expect(t, "IsRegular of "+row.what, got, err, row.want, row.err)
	}
}

func TestLinearRank(t *testing.T) {
	for _, row := range []struct {
		s      []string
		wanted []int
		want   int
	}{
		{[]string{"x: v; 1", "v: -x; 0"}, []int{0, 1}, 2}, {[]string{"x: v; 1", "v: -x; 0"}, []int{0}, 2}, {[]string{"x: v; 1", "v: -x; 0"}, []int{1, 1, 1}, 2}, {[]string{"x: v; 0", "v: -x; 0"}, []int{0}, 0}, {[]string{"x: x; 1", "y: x; 1"}, []int{0, 1}, 1}, {[]string{"x: x; 1", "y: x; 0"}, []int{0, 1}, 1}, {[]string{"x: x; 1", "y: x; 0"}, []int{1}, 1}, {[]string{"x: x; 1", "y: 2 * y; 1"}, []int{0, 1}, 2}, {[]string{"x: x; 1", "y: 2 * y; 0"}, []int{0, 1}, 1}, {[]string{"x: x; 1", "y: 2 * y; 1"}, []int{1}, 1},
		{[]string{"x: 0; 7"}, []int{0}, 0}, {[]string{"x: 3; 7"}, []int{0}, 0}, {[]string{"x: t; 0"}, []int{0}, 1}, {[]string{"x: y; 0", "y: 2; 1"}, []int{0}, 1}, {[]string{"x: y; 0", "y: 2; 1"}, []int{1}, 0}, {[]string{"x: x + t; -1"}, []int{0}, 0}, {[]string{"x: x + t; 0"}, []int{0}, 1}, {[]string{"x: x - 1; 1"}, []int{0}, 0},
		{[]string{"x: y; 0", "y: z; 0", "z: w; 1", "w: 0; 0"}, []int{0}, 1}, {[]string{"x: y; 0", "y: z; 0", "z: w; 1", "w: 0; 1"}, []int{0}, 2}, {[]string{"x: y + z; 1", "y: z; 1", "z: 1; 1"}, []int{0, 1, 2}, 2}, {[]string{"x: 2 * x + y; 1", "y: x + 2 * y; 1"}, []int{0}, 1}, {[]string{"x: 2 * x + y; 1", "y: x + 2 * y; -1"}, []int{0, 1}, 1}, {[]string{"x: 2 * x + y; 1", "y: x + 2 * y; 0"}, []int{0}, 2},
	} {
		got, err := LinearRank(sys(t, row.s...), row.wanted)
		expect(t, "LinearRank of "+row.s[0], got, err, row.want, api.OK)
	}
	got, err := LinearRank(ring(24), []int{3})
	expect(t, "LinearRank of 24 variables", got, err, 24, api.OK)
}

func TestLinearErrors(t *testing.T) {
	s, square := swing(t), sys(t, "x: y; 1", "y: x^2; 0")
	growth := lineUp([]int{1}, "integrator 1 1 1*1 0*1")
	bent := lineUp([]int{1}, "integrator 1 1 1*1 2*1", "adder 2 0 0*1")
	for _, row := range []struct {
		what   string
		s      api.System
		wanted []int
		want   api.Errno
	}{
		{"no system", api.System{}, nil, api.ErrEmpty}, {"no starts", api.System{Names: s.Names, Rates: s.Rates}, nil, api.ErrShape}, {"nothing wanted", spread(square), nil, api.ErrEmpty}, {"25 wanted", square, slices.Repeat([]int{-1}, 25), api.ErrMany}, {"a variable below 0", s, []int{0, -1}, api.ErrUnknown}, {"the variable 2 of 2", spread(square), []int{2}, api.ErrUnknown},
		{"a start that is not exact", spread(square), []int{0}, api.ErrState}, {"a square", square, []int{0}, api.ErrLinear}, {"a square that is not needed", sys(t, "x: 1; 1", "y: x^2; 0"), []int{0}, api.ErrLinear}, {"t^2", sys(t, "x: t^2; 1"), []int{0}, api.ErrLinear}, {"t x", sys(t, "x: t * x; 1"), []int{0}, api.ErrLinear},
	} {
		n, err := LinearRank(row.s, row.wanted)
		expect(t, "LinearRank: "+row.what, n, err, 0, row.want)
		p, err := Reduce(row.s, row.wanted)
		expectPlan(t, "Reduce: "+row.what, p, err, api.Plan{}, row.want)
		p = growth
		p.Outputs = slices.Repeat([]int{1}, min(len(row.wanted), 24))
		same, err := SameLinear(p, row.s, row.wanted)
		expect(t, "SameLinear: "+row.what, same, err, false, row.want)
	}
	for _, row := range []struct {
		what   string
		p      api.Plan
		s      api.System
		wanted []int
		want   api.Errno
	}{
		{"no plan", api.Plan{}, api.System{}, nil, api.ErrRange}, {"a loop", lineUp(nil, "adder 1 0 1*1"), api.System{}, nil, api.ErrLoop}, {"too few outputs", bent, spread(square), []int{0, 1}, api.ErrShape}, {"too many outputs", circle(), spread(square), []int{0}, api.ErrShape}, {"a start before the plan", bent, spread(s), []int{0}, api.ErrState}, {"a plan that is not regular", bent, s, []int{0}, api.ErrLinear}, {"a table", lineUp([]int{1}, "table 1 0 0*1 : 0 1"), s, []int{0}, api.ErrLinear}, {"none is linear", bent, square, []int{0}, api.ErrLinear},
	} {
		same, err := SameLinear(row.p, row.s, row.wanted)
		expect(t, "SameLinear: "+row.what, same, err, false, row.want)
	}
}

// someLinear returns a linear system, in which some variables may be the same, need few others, or stand still.
func someLinear(t *testing.T, r *rand.Rand, vars int) api.System {
	t.Helper()
	s := someSystem(t, r, vars, 1+r.Intn(4), 1)
	for i := range vars {
		if i > 0 && r.Intn(4) == 0 { // a variable that is another one, but for its start
			s.Rates[i] = slices.Clone(s.Rates[r.Intn(i)])
		}
		if r.Intn(3) == 0 {
			s.Start[i] = api.Span{Low: "0", High: "0"}
		}
	}
	return s
}

// disguised returns a linear system with other variables: sums of multiples of those of a system, of which some are
// wanted.
func disguised(t *testing.T, r *rand.Rand, s api.System) api.System {
	t.Helper()
	vars := len(s.Names)
	of := must[api.Poly](t, "a polynomial")
	single := func(v int) api.Poly {
		powers := make([]int, vars+1)
		powers[v] = 1
		return api.Poly{{Factor: "1", Powers: powers}}
	}
	to, back := []api.Poly{single(0)}, []api.Poly{single(0)} // the new variables by the old ones, and the other way
	for v := range vars {
		to, back = append(to, single(v+1)), append(back, single(v+1))
	}
	for range 3 { // one is changed by a multiple of another one
		i, j, factor := 1+r.Intn(vars), 1+r.Intn(vars), someRatio(r)
		if i == j {
			continue
		}
		to[i] = of(exact.AddPoly(to[i], of(exact.ScalePoly(factor, to[j], vars)), vars))
		step := []api.Poly{}
		for v := range vars + 1 {
			step = append(step, single(v))
		}
		step[i] = of(exact.AddPoly(step[i], of(exact.ScalePoly(ratOf(new(big.Rat).Neg(bigOf(factor))), single(j), vars)), vars))
		for v := range back {
			back[v] = of(exact.Compose(back[v], vars, step, vars))
		}
	}
	other := api.System{Names: s.Names}
	begin := append([]api.Rat{"0"}, startsOf(s)...)
	for _, p := range to[1:] {
		rate := of(generate.Lie(s, p))
		other.Rates = append(other.Rates, of(exact.Compose(rate, vars, back, vars)))
		start := must[api.Rat](t, "EvalPoly")(exact.EvalPoly(p, begin))
		other.Start = append(other.Start, api.Span{Low: start, High: start})
	}
	return other
}

// derivatives returns the derivatives of the wanted variables at the beginning, up to the order 16.
func derivatives(t *testing.T, s api.System, wanted []int) [][]*big.Rat {
	t.Helper()
	series := must[[][]api.Rat](t, "Series")(generate.Series(s, 16))
	var list [][]*big.Rat
	for _, v := range wanted {
		factorial := big.NewRat(1, 1)
		var row []*big.Rat
		for k, c := range series[v] {
			if k > 0 {
				factorial = new(big.Rat).Mul(factorial, big.NewRat(int64(k), 1))
			}
			row = append(row, new(big.Rat).Mul(factorial, bigOf(c)))
		}
		list = append(list, row)
	}
	return list
}

// rankOfSeries returns the linear rank from the Taylor coefficients: those of a sum of t, 1 and derivatives of up to 5
// variables are 0 if the first 7 are.
func rankOfSeries(t *testing.T, s api.System, wanted []int) int {
	matrix := [][]*big.Rat{make([]*big.Rat, 9), make([]*big.Rat, 9)}
	for i, row := range matrix { // 1 and t
		for j := range row {
			row[j] = new(big.Rat)
		}
		row[i].SetInt64(1)
	}
	for _, row := range derivatives(t, s, wanted) {
		for k := range 8 {
			matrix = append(matrix, slices.Clone(row[k:k+9]))
		}
	}
	return dense(matrix) - 2
}

// TestLinearRankOfSeries compares linear ranks with those of matrices of derivatives.
func TestLinearRankOfSeries(t *testing.T) {
	r := rand.New(rand.NewSource(10))
	found := map[string]int{}
	for range 600 {
		vars := 1 + r.Intn(4)
		s := disguised(t, r, someLinear(t, r, vars))
		wanted := r.Perm(vars)[:1+r.Intn(vars)]
		got, err := LinearRank(s, wanted)
		expect(t, "LinearRank", got, err, rankOfSeries(t, s, wanted), api.OK)
		found[strconv.Itoa(vars)+" "+strconv.Itoa(got)]++
	}
	if len(found) < 14 {
		t.Errorf("only %v", found)
	}
}

func TestReduce(t *testing.T) {
	for _, row := range []struct {
		s      []string
		wanted []int
	}{
		{[]string{"x: v; 1", "v: -x; 0"}, []int{0, 1}}, {[]string{"x: v; 1", "v: -x; 0"}, []int{1, 0, 1}}, {[]string{"x: x; 1", "y: x; 0"}, []int{1, 0}}, {[]string{"x: 0; 7"}, []int{0, 0}}, {[]string{"x: 1; 0"}, []int{0}}, {[]string{"x: 3; 7", "y: 2; 0"}, []int{0, 1}}, {[]string{"x: t + 1; 0"}, []int{0}}, {[]string{"x: x + t; -1"}, []int{0}},
		{[]string{"x: 2 * x + y; 1", "y: x + 2 * y; 1"}, []int{0, 1}}, {[]string{"x: y + z + u + v + w + x + t + 1; 1", "y: x; 1", "z: y; 1", "u: z; 2", "v: u; 3", "w: v - t; 4"}, []int{5, 0}}, {[]string{"x: 123457/654321 * x + 999999 * y; 999999/999998", "y: 999997/999993 * x - t / 999991; 1/999983"}, []int{0, 1}},
	} {
		expectReduced(t, sys(t, row.s...), row.wanted)
	}
	p := expectReduced(t, ring(24), []int{0, 7, 23})
	if len(p.Units) != 24 {
		t.Errorf("%d units", len(p.Units))
	}
}

// expectReduced reduces a system, and reports a plan that is wrong.
func expectReduced(t *testing.T, s api.System, wanted []int) api.Plan {
	t.Helper()
	p, err := Reduce(s, wanted)
	expectError(t, "Reduce", err, api.OK)
	rank, err := LinearRank(s, wanted)
	expectError(t, "LinearRank", err, api.OK)
	n, err := Integrators(p)
	expect(t, "Integrators", n, err, rank, api.OK)
	is, err := IsRegular(p)
	expect(t, "IsRegular", is, err, true, api.OK)
	if len(p.Outputs) != len(wanted) || !sameSeries(t, p, s, wanted, 16) {
		t.Errorf("Reduce of %v for %v: other series of %v", s, wanted, p)
	}
	is, err = SameLinear(p, s, wanted)
	expect(t, "SameLinear", is, err, true, api.OK)
	return p
}

// TestReduceSystems reduces many systems, also those whose variables hide that few integrals are enough.
func TestReduceSystems(t *testing.T) {
	r := rand.New(rand.NewSource(11))
	saved := 0
	for range 400 {
		vars := 1 + r.Intn(6)
		s := disguised(t, r, someLinear(t, r, vars))
		wanted := make([]int, 1+r.Intn(5))
		for i := range wanted {
			wanted[i] = r.Intn(vars)
		}
		if p := expectReduced(t, s, wanted); countKind(p, integrator) < vars {
			saved++
		}
	}
	if saved < 100 {
		t.Errorf("only %d plans have fewer integrators than variables", saved)
	}
}

func countKind(p api.Plan, kind string) int {
	n := 0
	for _, u := range p.Units {
		if u.Kind == kind {
			n++
		}
	}
	return n
}

// TestReduceSixDigits reduces full systems of 6 variables with numbers of 6 digits.
func TestReduceSixDigits(t *testing.T) {
	r := rand.New(rand.NewSource(12))
	long := func() api.Rat {
		return ratOf(big.NewRat(int64(100000+r.Intn(900000)), int64(100000+r.Intn(900000))))
	}
	for range 3 {
		s := ring(6)
		for i := range s.Rates {
			s.Rates[i] = nil
			for v := range 8 {
				powers := make([]int, 7)
				if v < 7 {
					powers[v] = 1
				}
				s.Rates[i] = append(s.Rates[i], api.Term{Factor: long(), Powers: powers})
			}
			start := long()
			s.Start[i] = api.Span{Low: start, High: start}
		}
		wanted := []int{r.Intn(6), r.Intn(6)}
		p, err := Reduce(s, wanted)
		expectError(t, "Reduce of long numbers", err, api.OK)
		n, err := Integrators(p)
		expect(t, "Integrators", n, err, 6, api.OK)
		is, err := SameLinear(p, s, wanted)
		expect(t, "SameLinear", is, err, true, api.OK)
	}
}

// TestReduceMany has systems for which there may be too few units, or too long numbers.
func TestReduceMany(t *testing.T) {
	r := rand.New(rand.NewSource(18))
	s := ring(24)
	for i := range s.Rates {
		s.Rates[i] = nil
		for v := range 24 {
			powers := make([]int, 25)
			powers[v+1] = 1
			s.Rates[i] = append(s.Rates[i], api.Term{Factor: someRatio(r), Powers: powers})
		}
	}
	long := sys(t, "x: y + 1; 1", "y: x - 1; 1")
	long.Rates[0][0].Factor = api.Rat(digits("9", 600))
	long.Start[1] = api.Span{Low: api.Rat(digits("7", 600)), High: api.Rat(digits("7", 600))}
	for _, s := range []api.System{s, long} {
		p, err := Reduce(s, []int{0})
		if err == api.OK {
			is, err := SameLinear(p, s, []int{0})
			expect(t, "SameLinear", is, err, true, api.OK)
		} else {
			expectPlan(t, "Reduce", p, err, api.Plan{}, api.ErrLarge)
		}
	}
}

func TestSameLinear(t *testing.T) {
	for _, row := range []struct {
		what   string
		p      api.Plan
		s      []string
		wanted []int
		want   bool
	}{
		{"the circle", circle(), []string{"x: v; 1", "v: -x; 0"}, []int{0, 1}, true}, {"the circle the other way", circle(), []string{"x: v; 1", "v: -x; 0"}, []int{1, 0}, false}, {"half of the circle", circle(), []string{"x: v; 1", "v: -x; 0"}, []int{0, 0}, false}, {"a faster circle", circle(), []string{"x: 2 * v; 1", "v: -2 * x; 0"}, []int{0, 1}, false}, {"another start", circle(), []string{"x: v; 1", "v: -x; 1"}, []int{0, 1}, false},
		{"growth less 1", lineUp([]int{2}, "integrator 1 1 1*1 0*1", "adder 2 0 1*1"), []string{"x: x; 1", "y: x; 0"}, []int{1}, true}, {"growth", lineUp([]int{2}, "integrator 1 1 1*1 0*1", "adder 2 0 1*1"), []string{"x: x; 1", "y: x; 0"}, []int{0}, false}, {"growth with t", lineUp([]int{2}, "integrator 1 1 1*1 0*1", "adder 2 1 1*1 0*3"), []string{"x: x - 3 * t + 3; 1"}, []int{0}, true}, {"growth with another t", lineUp([]int{2}, "integrator 1 1 1*1 0*1", "adder 2 1 1*1 0*2"), []string{"x: x - 3 * t + 3; 1"}, []int{0}, false},
		{"t", api.Plan{Shafts: 1, Outputs: []int{0}}, []string{"x: 1; 0"}, []int{0}, true}, {"t and a constant", api.Plan{Shafts: 1, Outputs: []int{0}}, []string{"x: 1; 1"}, []int{0}, false}, {"twice t", api.Plan{Shafts: 1, Outputs: []int{0}}, []string{"x: 2; 0"}, []int{0}, false}, {"not t", api.Plan{Shafts: 1, Outputs: []int{0}}, []string{"x: y; 0", "y: t; 1"}, []int{0}, false}, {"t from another variable", api.Plan{Shafts: 1, Outputs: []int{0}}, []string{"x: y; 0", "y: 0; 1"}, []int{0}, true},
		{"a late difference", lineUp([]int{1}, "integrator 1 0 2*1 0*1", "integrator 2 0 3*1 0*1", "integrator 3 0 4*1 0*1", "integrator 4 0 5*1 0*1", "adder 5 0 0*1"), []string{"x: 0; 0"}, []int{0}, false}, {"no difference", lineUp([]int{1}, "integrator 1 0 2*1 0*1", "integrator 2 0 3*1 0*1", "integrator 3 0 4*1 0*1", "adder 4 0 0*1 0*-1"), []string{"x: 0; 0"}, []int{0}, true}, {"another ratio of t", lineUp([]int{1}, "integrator 1 1 1*1/2 0*4"), []string{"x: 2 * x; 1"}, []int{0}, true},
	} {
		got, err := SameLinear(row.p, sys(t, row.s...), row.wanted)
		expect(t, "SameLinear of "+row.what, got, err, row.want, api.OK)
	}
}

// TestSameLinearGreat has shafts that Read refuses.
func TestSameLinearGreat(t *testing.T) {
	long := digits("9", 600)
	p := lineUp([]int{4, 3}, "integrator 1 1 1*1 0*1", "adder 2 "+long+" 1*"+long, "adder 3 1 2*"+long, "adder 4 1 3*1/"+long)
	if _, _, err := Read(p); err != api.ErrLarge {
		t.Errorf("Read: the error %d", err)
	}
	p.Units[3].Start = api.Rat(long)
	s := sys(t, "x: x; 1")
	s.Start[0] = api.Span{Low: api.Rat(long), High: api.Rat(long)}
	got, err := SameLinear(p, s, []int{0, 0})
	expect(t, "SameLinear of two shafts", got, err, false, api.OK)
	p.Outputs = []int{4}
	got, err = SameLinear(p, s, []int{0})
	expect(t, "SameLinear of a shaft that a greater one turns", got, err, true, api.OK)
}

// TestSameLinearOfSeries compares what SameLinear reports with Taylor coefficients; with up to 7 variables together
// functions are the same if 9 of these are.
func TestSameLinearOfSeries(t *testing.T) {
	r := rand.New(rand.NewSource(13))
	found := map[bool]int{}
	for range 400 {
		vars := 1 + r.Intn(3)
		s := disguised(t, r, someLinear(t, r, vars))
		wanted := []int{r.Intn(vars), r.Intn(vars)}
		p := must[api.Plan](t, "Reduce")(Reduce(s, wanted))
		if len(p.Units) > 0 && r.Intn(4) > 0 {
			u := &p.Units[r.Intn(len(p.Units))]
			switch r.Intn(3) {
			case 0:
				u.Start = someRat(r)
			case 1:
				u.Feeds[r.Intn(len(u.Feeds))].Ratio = someRatio(r)
			default:
				p.Outputs[0] = r.Intn(p.Shafts)
			}
		}
		got, err := SameLinear(p, s, wanted)
		expect(t, "SameLinear", got, err, sameSeries(t, p, s, wanted, 16), api.OK)
		found[got]++
	}
	if found[true] < 100 || found[false] < 100 {
		t.Errorf("only %v", found)
	}
}
