package scale

import (
	"math"
	"math/rand"
	"slices"
	"testing"

	"integraph/api"
)

// strange are arguments that are well-formed, nearly so, and not at all.
var (
	strangeInts = []int{0, 1, 2, 3, -1, 5, 40, 41, -40, -41, 256, math.MaxInt, math.MinInt}
	strangeRats = []api.Rat{"0", "1", "-1", "1/2", "-3/7", "5", "-0", "", "2/4", "x", digits("9", 600), digits("9", 601), "1/" + digits("7", 600)}
)

func pick[T any](r *rand.Rand, list []T) T { return list[r.Intn(len(list))] }

// strangely changes an element of a list now and then, or the length of the list.
func strangely[T any](r *rand.Rand, list []T, by []T) []T {
	list = slices.Clone(list)
	switch n := r.Intn(30); {
	case n == 0:
		list = append(list, pick(r, by))
	case n == 1 && len(list) > 0:
		list = list[1:]
	case n < 4 && len(list) > 0:
		list[r.Intn(len(list))] = pick(r, by)
	}
	return list
}

func strangePlan(t *testing.T, r *rand.Rand) api.Plan {
	p := somePlan(t, r, 1+r.Intn(3))
	switch r.Intn(20) {
	case 0:
		p.Shafts = pick(r, strangeInts)
	case 1:
		p.Units[0].Feeds[0].Shaft = pick(r, strangeInts)
	case 2:
		p.Units[0].Feeds[0].Ratio = pick(r, strangeRats)
	case 3:
		p.Units[0].Feeds = nil
	case 4:
		p.Units[0].Out = pick(r, strangeInts)
	case 5:
		p.Units[0].Kind = "wheel"
	}
	return p
}

func strangeSpans(r *rand.Rand, n int) []api.Span {
	return strangely(r, someRanges(r, max(min(n, 40), 0)), []api.Span{{}, {Low: pick(r, strangeRats), High: pick(r, strangeRats)}, {Low: pick(r, strangeRats), High: "3"}})
}

func strangeBench(r *rand.Rand) api.Bench {
	b := someBench(r)
	switch r.Intn(20) {
	case 0:
		b.Disc = pick(r, strangeInts)
	case 1:
		b.Shaft = pick(r, strangeInts)
	case 2:
		b.Constant, b.Gear = pick(r, strangeInts), pick(r, strangeInts)
	}
	return b
}

func strangeSetup(r *rand.Rand, p api.Plan, b api.Bench) api.Setup {
	var s api.Setup
	if isPlain := !slices.ContainsFunc(p.Units, func(u api.Unit) bool {
		return len(u.Feeds) == 0 || u.Out < 0 || u.Out >= p.Shafts || p.Shafts > 40
	}); isPlain {
		s = agreedSetup(r, p, b)
	}
	s.Shafts = strangely(r, s.Shafts, strangeInts)
	for i, l := range s.Inputs {
		s.Inputs[i] = strangely(r, l, strangeInts)
	}
	s.Inputs = strangely(r, s.Inputs, [][]int{nil, {3}, strangeInts})
	return s
}

// scratch spoils a result: what shares memory with it would change.
func scratch[T any](list []T) { clear(list) }

// scratchPlan spoils a plan.
func scratchPlan(p api.Plan) {
	for _, u := range p.Units {
		scratch(u.Feeds)
		scratch(u.Curve)
	}
	scratch(p.Units)
	scratch(p.Outputs)
}

// TestAny calls each function with strange arguments (P1): none panics, no result stands beside an error, and neither
// they nor what is done with their results changes an argument.
func TestAny(t *testing.T) {
	r := rand.New(rand.NewSource(13))
	right := map[string]int{}
	expectZero := func(what string, err api.Errno, isZero bool) {
		t.Helper()
		if err != api.OK && !isZero {
			t.Errorf("%s: a result beside the error %d", what, err)
		}
		if err == api.OK {
			right[what]++
		}
	}
	for range 2500 {
		p, b := strangePlan(t, r), strangeBench(r)
		ranges, box, s := strangeSpans(r, p.Shafts), strangeSpans(r, 1+r.Intn(3)), strangeSetup(r, p, b)
		if best, err := Best(p, ranges, b); err == api.OK && r.Intn(3) > 0 {
			s = best
		}
		factors := strangely(r, append([]api.Rat{"1"}, slices.Repeat([]api.Rat{someRatio(r, 9)}, max(min(p.Shafts, 40), 1)-1)...), strangeRats)
		planBefore, rangesBefore, setupBefore, factorsBefore := copyOf(p), slices.Clone(ranges), copyOfSetup(s), slices.Clone(factors)
		boxBefore := slices.Clone(box)

		for _, c := range calls() {
			err, isZero := c.run(p, ranges, b, s)
			expectZero(c.name, err, isZero)
		}
		expectZero("CheckBench", CheckBench(b), true)
		e, err := Exponent(pick(r, strangeRats))
		expectZero("Exponent", err, e == 0)
		a, err := Largest(api.Span{Low: pick(r, strangeRats), High: pick(r, strangeRats)})
		expectZero("Largest", err, a == "")
		list, err := Ranges(p, box)
		expectZero("Ranges", err, list == nil)
		scratch(list)
		shafts, inputs, _ := Limits(p, ranges, b)
		scratch(shafts)
		scratch(inputs)
		circle, _ := Refuse(p, ranges, b)
		expectZero("CheckRefused", CheckRefused(p, ranges, b, strangely(r, circle, strangeInts)), true)
		scratch(circle)
		gears, _ := Ratios(p, s)
		scratch(gears)
		turns, _ := Turns(p, ranges, s)
		scratch(turns)
		q, err := Scaled(p, factors)
		expectZero("Scaled", err, samePlan(q, api.Plan{}))
		scratchPlan(q)
		q, _ = Geared(p, b, s)
		scratchPlan(q)
		if !samePlan(p, planBefore) || !slices.Equal(ranges, rangesBefore) || !slices.Equal(box, boxBefore) || !slices.Equal(factors, factorsBefore) ||
			!slices.Equal(s.Shafts, setupBefore.Shafts) || !slices.EqualFunc(s.Inputs, setupBefore.Inputs, slices.Equal) {
			t.Fatal("an argument is changed")
		}
	}
	for _, what := range []string{"CheckBench", "Exponent", "Ranges", "Largest", "Limits", "CheckSetup", "Conditions", "Best", "Refuse", "CheckRefused", "Ratios", "Turns", "Slack", "Scaled", "Geared"} {
		if right[what] < 100 {
			t.Errorf("%s has only %d results", what, right[what])
		}
	}
}

// TestNothingIsShared spoils each list of a result, and appends to it, which changes no other one.
func TestNothingIsShared(t *testing.T) {
	p, ranges, b := mixed()
	lists := func() [][]int {
		shafts, inputs, err := Limits(p, ranges, b)
		expectError(t, "Limits", err, api.OK)
		return append([][]int{shafts}, inputs...)
	}
	best := func() [][]int {
		s, err := Best(p, ranges, b)
		expectError(t, "Best", err, api.OK)
		return append([][]int{s.Shafts}, s.Inputs...)
	}
	for _, call := range []func() [][]int{lists, best} {
		list, again := call(), call()
		for i := range list {
			scratch(append(list[i], 99)[:len(list[i])+1])
			for j := i + 1; j < len(list); j++ {
				if !slices.Equal(list[j], again[j]) {
					t.Errorf("the lists %d and %d share memory", i, j)
				}
			}
		}
	}
	s := mixedSetup()
	q, err := Geared(p, b, s)
	expectError(t, "Geared", err, api.OK)
	again := copyOf(q)
	scratch(append(q.Units[0].Feeds, api.Feed{}))
	scratch(append(q.Units[0].Curve, "1"))
	if !slices.EqualFunc(q.Units[1:], again.Units[1:], func(u, v api.Unit) bool {
		return slices.Equal(u.Feeds, v.Feeds) && slices.Equal(u.Curve, v.Curve)
	}) {
		t.Error("the units of a plan in turns share memory")
	}
}
