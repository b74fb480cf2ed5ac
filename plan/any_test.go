package plan

import (
	"math"
	"math/rand"
	"slices"
	"testing"

	"integraph/api"
	"integraph/exact"
	"integraph/generate"
)

// strange are arguments that are well-formed, nearly so, and not at all.
var (
	strangeInts  = []int{0, 1, 2, 3, -1, 24, 25, 100, 101, math.MaxInt, math.MinInt}
	strangeRats  = []api.Rat{"0", "1", "-1", "1/2", "-3/7", "5", "-0", "", "2/4", "x", api.Rat(digits("9", 600)), api.Rat(digits("9", 601)), "1/" + api.Rat(digits("7", 600))}
	strangeKinds = []string{integrator, adder, table, "", "gear"}
)

func pick[T any](r *rand.Rand, list []T) T { return list[r.Intn(len(list))] }

func strangeRat(r *rand.Rand) api.Rat {
	if r.Intn(8) > 0 {
		return pick(r, strangeRats[:6])
	}
	return pick(r, strangeRats)
}

// strangePlan returns a plan of which a few things may be changed.
func strangePlan(t *testing.T, r *rand.Rand) api.Plan {
	p := somePlan(t, r, r.Intn(7), integrator, adder, table)
	for range r.Intn(3) {
		if r.Intn(4) == 0 || len(p.Units) == 0 {
			p.Shafts = pick(r, strangeInts)
			continue
		}
		u := &p.Units[r.Intn(len(p.Units))]
		switch r.Intn(8) {
		case 0:
			u.Kind = pick(r, strangeKinds)
		case 1:
			u.Feeds[0].Shaft = pick(r, strangeInts)
		case 2:
			u.Feeds[0].Ratio = strangeRat(r)
		case 3:
			u.Out = pick(r, strangeInts)
		case 4:
			u.Start = strangeRat(r)
		case 5:
			u.Curve = append(u.Curve, strangeRat(r))
		case 6:
			u.Feeds = u.Feeds[:len(u.Feeds)-1]
			return p
		case 7:
			p.Outputs = append(p.Outputs, pick(r, strangeInts))
		}
	}
	return p
}

// strangeSystem returns a system of which a few things may be changed.
func strangeSystem(t *testing.T, r *rand.Rand) api.System {
	if r.Intn(10) == 0 {
		return ring(r.Intn(26))
	}
	s := someSystem(t, r, 1+r.Intn(4), 3, r.Intn(4))
	i := r.Intn(len(s.Names))
	switch r.Intn(12) {
	case 0:
		s.Names[i] = pick(r, []string{"x1", "", "a b", "x9"})
	case 1:
		s.Start[i].High = strangeRat(r)
	case 2:
		s.Rates = s.Rates[1:]
	case 3:
		for j := range s.Rates[i] {
			s.Rates[i][j].Factor = strangeRat(r)
		}
	}
	return s
}

// strangeList returns numbers, most of which are those of some things.
func strangeList(r *rand.Rand, n int) []int {
	list := make([]int, r.Intn(5))
	for i := range list {
		list[i] = pick(r, []int{0, r.Intn(n + 1), r.Intn(n + 1), pick(r, strangeInts)})
	}
	if r.Intn(40) == 0 {
		return make([]int, 25)
	}
	return list
}

// copyOf returns a plan that shares no memory.
func copyOf(p api.Plan) api.Plan {
	p.Units, p.Outputs = slices.Clone(p.Units), slices.Clone(p.Outputs)
	for i, u := range p.Units {
		p.Units[i].Feeds, p.Units[i].Curve = slices.Clone(u.Feeds), slices.Clone(u.Curve)
	}
	return p
}

// copyOfSystem returns a system that shares no memory.
func copyOfSystem(s api.System) api.System {
	s.Names, s.Start, s.Rates = slices.Clone(s.Names), slices.Clone(s.Start), slices.Clone(s.Rates)
	for i, rate := range s.Rates {
		s.Rates[i] = slices.Clone(rate)
		for j, term := range rate {
			s.Rates[i][j].Powers = slices.Clone(term.Powers)
		}
	}
	return s
}

// TestAllPlans calls each function of plans with strange arguments (P1): none panics, no result stands beside an
// error, each result is well-formed, and arguments do not change.
func TestAllPlans(t *testing.T) {
	r := rand.New(rand.NewSource(21))
	right := 0
	for range 6000 {
		p, s := strangePlan(t, r), strangeSystem(t, r)
		before, beforeSystem, checked := copyOf(p), copyOfSystem(s), CheckPlan(p)
		right += map[bool]int{true: 1}[checked == api.OK]
		expectFirst := func(what string, err api.Errno, isZero bool) {
			t.Helper()
			if checked != api.OK && err != checked || err != api.OK && !isZero {
				t.Errorf("%s: the error %d of a plan with %d, or a result beside it", what, err, checked)
			}
		}
		n, err := Integrators(p)
		expectFirst("Integrators", err, n == 0)
		starts, err := Starts(p)
		expectFirst("Starts", err, starts == nil)
		parts, err := Parts(p, pick(r, strangeInts))
		expectFirst("Parts", err, parts == nil)
		order, err := Order(p)
		expectFirst("Order", err, order == nil)
		pruned, err := Prune(p)
		expectFirst("Prune", err, samePlan(pruned, api.Plan{}))
		renumbered, err := Renumber(p, strangeList(r, len(p.Units)))
		expectFirst("Renumber", err, samePlan(renumbered, api.Plan{}))
		is, err := IsRegular(p)
		expectFirst("IsRegular", err, !is)
		read, shafts, err := Read(p)
		expectFirst("Read", err, read.Names == nil && read.Rates == nil && read.Start == nil && shafts == nil)
		if err == api.OK && len(read.Names) > 0 {
			expectError(t, "CheckSystem", generate.CheckSystem(read), api.OK)
		}
		for _, q := range shafts {
			expectError(t, "CheckPoly", exact.CheckPoly(q, len(read.Names)), api.OK)
		}
		wanted := strangeList(r, len(s.Names))
		expectFirst("Verify", Verify(p, s, wanted, s.Rates), true)
		same, err := SameLinear(p, s, wanted)
		expectFirst("SameLinear", err, !same)
		if !samePlan(p, before) || !slices.EqualFunc(s.Rates, beforeSystem.Rates, samePoly) {
			t.Error("an argument is changed")
		}
	}
	if right < 2000 {
		t.Errorf("only %d plans are right", right)
	}
}

// TestAllSystems calls each function of systems with strange arguments.
func TestAllSystems(t *testing.T) {
	r := rand.New(rand.NewSource(22))
	right := 0
	for range 3000 {
		s := strangeSystem(t, r)
		before, checked := copyOfSystem(s), generate.CheckSystem(s)
		right += map[bool]int{true: 1}[checked == api.OK]
		expectFirst := func(what string, err api.Errno, isZero bool) {
			t.Helper()
			if checked != api.OK && err != checked || err != api.OK && !isZero {
				t.Errorf("%s: the error %d of a system with %d, or a result beside it", what, err, checked)
			}
		}
		n, err := Rank(s)
		expectFirst("Rank", err, n == 0)
		products, cost, err := Products(s)
		expectFirst("Products", err, products == nil && cost == 0)
		p, proof, err := Make(s)
		expectFirst("Make", err, samePlan(p, api.Plan{}) && proof == nil)
		if err == api.OK {
			expectError(t, "Verify", Verify(p, s, numbers(len(s.Names)), proof), api.OK)
		}
		wanted := strangeList(r, len(s.Names))
		n, err = LinearRank(s, wanted)
		expectFirst("LinearRank", err, n == 0)
		p, err = Reduce(s, wanted)
		expectFirst("Reduce", err, samePlan(p, api.Plan{}))
		if err == api.OK {
			expectError(t, "CheckPlan", CheckPlan(p), api.OK)
		}
		if !slices.EqualFunc(s.Rates, before.Rates, samePoly) || !slices.Equal(s.Start, before.Start) || !slices.Equal(s.Names, before.Names) {
			t.Error("an argument is changed")
		}
	}
	if right < 1500 {
		t.Errorf("only %d systems are right", right)
	}
}
