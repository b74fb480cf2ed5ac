package plan

import (
	"math/rand"
	"slices"
	"testing"

	"integraph/api"
)

// The tests of this file are those of P4.7.

// sameOutputs reports whether the outputs of two plans have the same Taylor coefficients.
func sameOutputs(t *testing.T, p, q api.Plan) bool {
	t.Helper()
	return slices.EqualFunc(outputs(t, p, 6), outputs(t, q, 6), slices.Equal)
}

// TestChangesOfPlans has other numbers of shafts, another order of units, and no units on which no output hangs.
func TestChangesOfPlans(t *testing.T) {
	r := rand.New(rand.NewSource(14))
	pruned := 0
	for range 300 {
		p := somePlan(t, r, 1+r.Intn(7), integrator, adder, table)
		if _, _, err := Read(p); err != api.OK {
			continue
		}
		q := must[api.Plan](t, "Prune")(Prune(p))
		expectError(t, "CheckPlan of a pruned plan", CheckPlan(q), api.OK)
		if len(q.Units) < len(p.Units) {
			pruned++
		}
		parts := map[int]bool{}
		for _, shaft := range q.Outputs {
			for _, i := range must[[]int](t, "Parts")(Parts(q, shaft)) {
				parts[i] = true
			}
		}
		if len(parts) != len(q.Units) {
			t.Errorf("only %d of %d units of a pruned plan are needed", len(parts), len(q.Units))
		}
		again, err := Prune(q)
		expectPlan(t, "Prune of a pruned plan", again, err, q, api.OK)
		to := r.Perm(p.Shafts - 1)
		for i := range to {
			to[i]++
		}
		renumbered := must[api.Plan](t, "Renumber")(Renumber(p, append([]int{0}, to...)))
		if !sameOutputs(t, p, q) || !sameOutputs(t, p, renumbered) || !sameOutputs(t, p, shuffled(r, p)) {
			t.Errorf("other outputs of %v", p)
		}
	}
	if pruned < 100 {
		t.Errorf("only %d plans were pruned", pruned)
	}
}

// TestProofsProve changes plans and proofs of Make a little: what is accepted has the series of the variables.
func TestProofsProve(t *testing.T) {
	r := rand.New(rand.NewSource(15))
	accepted, refused := 0, 0
	for range 400 {
		vars := 1 + r.Intn(3)
		s := someSystem(t, r, vars, 3, 2)
		p, proof, err := Make(s)
		if err != api.OK {
			continue
		}
		u := &p.Units[r.Intn(len(p.Units))]
		switch r.Intn(4) {
		case 0:
			u.Feeds[r.Intn(len(u.Feeds))].Ratio = someRatio(r)
		case 1:
			u.Feeds[r.Intn(len(u.Feeds))].Shaft = r.Intn(p.Shafts)
		case 2:
			u.Start = someRat(r)
		case 3:
			p.Outputs[r.Intn(vars)] = r.Intn(p.Shafts)
		}
		if CheckPlan(p) != api.OK {
			continue
		}
		if Verify(p, s, numbers(vars), proof) != api.OK {
			refused++
			continue
		}
		accepted++
		if !sameSeries(t, p, s, numbers(vars), 5) {
			t.Errorf("a proof of %v for %v is accepted", p, s)
		}
	}
	if accepted < 40 || refused < 100 {
		t.Errorf("%d proofs were accepted, and %d refused", accepted, refused)
	}
}

// TestRegularPlansNeedTheRank has regular plans, and what they show.
func TestRegularPlansNeedTheRank(t *testing.T) {
	r := rand.New(rand.NewSource(16))
	less := 0
	for range 300 {
		p := somePlan(t, r, 2+r.Intn(7), integrator, integrator, adder)
		for i := range p.Units {
			if u := &p.Units[i]; u.Kind == integrator {
				u.Feeds[1].Shaft = 0
			}
		}
		is, err := IsRegular(p)
		expect(t, "IsRegular", is, err, true, api.OK)
		s, shafts, err := Read(p)
		if err != api.OK || len(s.Names) == 0 {
			continue
		}
		var wanted []int
		var shown []int
		for v := range s.Names {
			for shaft, q := range shafts {
				if r.Intn(2) == 0 && samePoly(q, polys(t, s, s.Names[v])[0]) {
					wanted, shown = append(wanted, v), append(shown, shaft)
				}
			}
		}
		if len(wanted) == 0 {
			continue
		}
		p.Outputs = shown
		is, err = SameLinear(p, s, wanted)
		expect(t, "SameLinear", is, err, true, api.OK)
		rank, err := LinearRank(s, wanted)
		expectError(t, "LinearRank", err, api.OK)
		n, err := Integrators(must[api.Plan](t, "Prune")(Prune(p)))
		if err != api.OK || n < rank {
			t.Errorf("%d integrators, and the linear rank %d", n, rank)
		}
		if n > rank {
			less++
		}
	}
	if less < 20 {
		t.Errorf("only %d plans have more integrators than are needed", less)
	}
}

func TestRanks(t *testing.T) {
	r := rand.New(rand.NewSource(17))
	less := [2]int{}
	for range 400 {
		vars := 1 + r.Intn(5)
		s := disguised(t, r, someLinear(t, r, vars))
		all, err := LinearRank(s, numbers(vars))
		expectError(t, "LinearRank", err, api.OK)
		part, err := LinearRank(s, r.Perm(vars)[:1+r.Intn(vars)])
		expectError(t, "LinearRank of a part", err, api.OK)
		rank, err := Rank(s)
		expectError(t, "Rank", err, api.OK)
		if part > all || all > rank || rank > vars {
			t.Errorf("the linear ranks %d and %d, the rank %d, %d variables", part, all, rank, vars)
		}
		if all < rank {
			less[0]++
		}
		if rank < vars {
			less[1]++
		}
	}
	if less[0] < 20 || less[1] < 20 {
		t.Errorf("%v ranks are less", less)
	}
}
