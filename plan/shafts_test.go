package plan

import (
	"math"
	"math/rand"
	"slices"
	"testing"

	"integraph/api"
)

// The tests of this file are those of P4.1.

// changed returns the mixed plan behind a change.
func changed(change func(p *api.Plan)) api.Plan {
	p := mixed()
	change(&p)
	return p
}

// line returns a plan of some integrators, each of which integrates the one behind it over t, and of some adders.
func line(integrators, adders int) api.Plan {
	p := api.Plan{Shafts: integrators + adders + 1}
	for i := range integrators {
		p.Units = append(p.Units, api.Unit{Kind: integrator, Feeds: []api.Feed{{Shaft: (i + 1) % p.Shafts, Ratio: "1"}, {Shaft: 0, Ratio: "1"}}, Out: i + 1, Start: "1"})
	}
	for i := range adders {
		p.Units = append(p.Units, api.Unit{Kind: adder, Feeds: []api.Feed{{Shaft: 0, Ratio: "1"}}, Out: integrators + i + 1, Start: "0"})
	}
	return p
}

func TestCheckPlan(t *testing.T) {
	long, longer := api.Rat(digits("9", 600)), api.Rat(digits("9", 601))
	for _, row := range []struct {
		what string
		p    api.Plan
		want api.Errno
	}{
		{"the circle", circle(), api.OK}, {"a plan of all kinds", mixed(), api.OK}, {"no units", api.Plan{Shafts: 1}, api.OK}, {"t as an output", api.Plan{Shafts: 1, Outputs: []int{0, 0}}, api.OK},
		{"no shafts", api.Plan{}, api.ErrRange}, {"-1 shafts", api.Plan{Shafts: -1}, api.ErrRange}, {"101 shafts", api.Plan{Shafts: 101, Units: make([]api.Unit, 97)}, api.ErrRange}, {"100 shafts without drivers", api.Plan{Shafts: 100}, api.ErrDriver}, {"the most shafts", api.Plan{Shafts: math.MaxInt}, api.ErrRange},
		{"96 units", line(24, 72), api.OK}, {"97 units", line(24, 73), api.ErrMany}, {"97 units of no kind", api.Plan{Shafts: 1, Units: make([]api.Unit, 97)}, api.ErrMany}, {"97 shafts", line(0, 96), api.OK},
		{"no kind", changed(func(p *api.Plan) { p.Units[1] = api.Unit{} }), api.ErrKind}, {"another kind", changed(func(p *api.Plan) { p.Units[1].Kind = "Adder" }), api.ErrKind}, {"a kind before a shape", changed(func(p *api.Plan) { p.Units[0].Kind, p.Units[0].Feeds = "gear", nil }), api.ErrKind}, {"the first unit before the second one", changed(func(p *api.Plan) { p.Units[0].Curve, p.Units[1].Kind = []api.Rat{"x"}, "" }), api.ErrShape},
		{"an integrator with one feed", changed(func(p *api.Plan) { p.Units[1].Feeds = p.Units[1].Feeds[:1] }), api.ErrShape}, {"an integrator with three feeds", changed(func(p *api.Plan) { p.Units[1].Feeds = append(p.Units[1].Feeds, api.Feed{}) }), api.ErrShape},
		{"an adder without feeds", changed(func(p *api.Plan) { p.Units[0].Feeds = nil }), api.ErrShape}, {"an adder with 9 feeds", changed(func(p *api.Plan) { p.Units[0].Feeds = make([]api.Feed, 9) }), api.ErrShape}, {"an adder with 8 feeds", changed(func(p *api.Plan) { p.Units[0].Feeds = slices.Repeat(p.Units[0].Feeds, 4) }), api.OK}, {"an adder with one feed", changed(func(p *api.Plan) { p.Units[0].Feeds = p.Units[0].Feeds[:1] }), api.OK},
		{"a table without feeds", changed(func(p *api.Plan) { p.Units[2].Feeds = nil }), api.ErrShape}, {"a table with two feeds", changed(func(p *api.Plan) { p.Units[2].Feeds = make([]api.Feed, 2) }), api.ErrShape},
		{"a table without a curve", changed(func(p *api.Plan) { p.Units[2].Curve = nil }), api.ErrShape}, {"a table with 13 numbers", changed(func(p *api.Plan) { p.Units[2].Curve = append(p.Units[2].Curve, slices.Repeat([]api.Rat{"0"}, 10)...) }), api.OK}, {"a table with 14 numbers", changed(func(p *api.Plan) { p.Units[2].Curve = make([]api.Rat, 14) }), api.ErrShape},
		{"an adder with a curve", changed(func(p *api.Plan) { p.Units[0].Curve = []api.Rat{"0"} }), api.ErrShape}, {"an integrator with a curve", changed(func(p *api.Plan) { p.Units[1].Curve = []api.Rat{"1"} }), api.ErrShape}, {"a shape before a feed", changed(func(p *api.Plan) { p.Units[1].Feeds = make([]api.Feed, 3) }), api.ErrShape},
		{"a shaft below 0", changed(func(p *api.Plan) { p.Units[0].Feeds[0].Shaft = -1 }), api.ErrUnknown}, {"the shaft 6 of 6", changed(func(p *api.Plan) { p.Units[0].Feeds[1].Shaft = 6 }), api.ErrUnknown}, {"a shaft before a ratio", changed(func(p *api.Plan) { p.Units[0].Feeds[0] = api.Feed{Shaft: 6, Ratio: "x"} }), api.ErrUnknown}, {"the first feed before the second one", changed(func(p *api.Plan) { p.Units[0].Feeds[0].Ratio, p.Units[0].Feeds[1].Shaft = "0", 6 }), api.ErrZero},
		{"no ratio", changed(func(p *api.Plan) { p.Units[0].Feeds[0].Ratio = "" }), api.ErrForm}, {"a ratio that is not in lowest terms", changed(func(p *api.Plan) { p.Units[0].Feeds[0].Ratio = "2/4" }), api.ErrForm}, {"a long ratio", changed(func(p *api.Plan) { p.Units[0].Feeds[0].Ratio = long }), api.OK}, {"too long a ratio", changed(func(p *api.Plan) { p.Units[0].Feeds[0].Ratio = longer }), api.ErrLarge}, {"a ratio 0", changed(func(p *api.Plan) { p.Units[0].Feeds[0].Ratio = "0" }), api.ErrZero},
		{"a ratio before the shaft that is driven", changed(func(p *api.Plan) { p.Units[0].Feeds[1].Ratio, p.Units[0].Out = "0", 0 }), api.ErrZero},
		{"the shaft 0 driven", changed(func(p *api.Plan) { p.Units[0].Out = 0 }), api.ErrUnknown}, {"a shaft below 0 driven", changed(func(p *api.Plan) { p.Units[0].Out = -3 }), api.ErrUnknown}, {"the shaft 6 of 6 driven", changed(func(p *api.Plan) { p.Units[0].Out = 6 }), api.ErrUnknown}, {"the shaft that is driven before a start", changed(func(p *api.Plan) { p.Units[0].Out, p.Units[0].Start = 0, "" }), api.ErrUnknown},
		{"no start", changed(func(p *api.Plan) { p.Units[3].Start = "" }), api.ErrForm}, {"too long a start", changed(func(p *api.Plan) { p.Units[4].Start = longer }), api.ErrLarge}, {"a start before a curve", changed(func(p *api.Plan) { p.Units[2].Start, p.Units[2].Curve[1] = longer, "" }), api.ErrLarge}, {"a number of a curve", changed(func(p *api.Plan) { p.Units[2].Curve[1] = "-0" }), api.ErrForm}, {"the first number of a curve", changed(func(p *api.Plan) { p.Units[2].Curve[1], p.Units[2].Curve[2] = longer, "" }), api.ErrLarge},
		{"a curve before the next unit", changed(func(p *api.Plan) { p.Units[2].Curve[1], p.Units[3].Kind = "", "" }), api.ErrForm}, {"units before outputs", changed(func(p *api.Plan) { p.Units[4].Curve, p.Outputs = []api.Rat{"1"}, make([]int, 25) }), api.ErrShape},
		{"24 outputs", changed(func(p *api.Plan) { p.Outputs = make([]int, 24) }), api.OK}, {"25 outputs", changed(func(p *api.Plan) { p.Outputs = slices.Repeat([]int{-1}, 25) }), api.ErrMany}, {"an output below 0", changed(func(p *api.Plan) { p.Outputs[2] = -1 }), api.ErrUnknown}, {"the output 6 of 6", changed(func(p *api.Plan) { p.Outputs[2] = 6 }), api.ErrUnknown}, {"no outputs", changed(func(p *api.Plan) { p.Outputs = nil }), api.OK},
		{"24 integrators", line(24, 0), api.OK}, {"25 integrators", line(25, 0), api.ErrMany}, {"outputs before 25 integrators", func() api.Plan { p := line(25, 0); p.Outputs = []int{26}; return p }(), api.ErrUnknown}, {"25 integrators before drivers", func() api.Plan { p := line(25, 0); p.Shafts++; return p }(), api.ErrMany},
		{"a shaft without a driver", changed(func(p *api.Plan) { p.Shafts++ }), api.ErrDriver}, {"a shaft with two drivers", changed(func(p *api.Plan) { p.Units[4].Out = 1 }), api.ErrDriver}, {"a driver more", changed(func(p *api.Plan) { p.Units = append(p.Units, p.Units[4]) }), api.ErrDriver}, {"drivers before a loop", changed(func(p *api.Plan) { p.Shafts++; p.Units[0].Feeds[0].Shaft = 3 }), api.ErrDriver},
		{"an adder that is fed by itself", changed(func(p *api.Plan) { p.Units[0].Feeds[0].Shaft = 3 }), api.ErrLoop}, {"a loop of an adder, an integrator and a table", changed(func(p *api.Plan) { p.Units[2].Feeds[0].Shaft = 3 }), api.ErrLoop}, {"an integrator over itself", changed(func(p *api.Plan) { p.Units[1].Feeds[1].Shaft = 1 }), api.ErrLoop}, {"an integrator of itself", changed(func(p *api.Plan) { p.Units[1].Feeds[0].Shaft = 1 }), api.OK},
		{"a table that is fed by itself", lineUp(nil, "table 1 1 1*1 : 0 1"), api.ErrLoop}, {"a loop before a conflict", lineUp(nil, "table 1 1 1*1 : 0 2"), api.ErrLoop}, {"two integrators over each other", lineUp(nil, "integrator 1 0 0*1 2*1", "integrator 2 0 0*1 1*1"), api.ErrLoop}, {"two integrators of each other", circle(), api.OK}, {"two adders of each other", lineUp(nil, "adder 1 0 2*1", "adder 2 0 1*1"), api.ErrLoop},
		{"a table with another start", changed(func(p *api.Plan) { p.Units[2].Start = "3/2" }), api.ErrConflict}, {"a table with another shaft", changed(func(p *api.Plan) { p.Units[2].Feeds[0].Shaft = 0 }), api.ErrConflict}, {"a table with another ratio", changed(func(p *api.Plan) { p.Units[2].Feeds[0].Ratio = "1" }), api.ErrConflict}, {"a table with the opposite ratio", changed(func(p *api.Plan) { p.Units[2].Feeds[0].Ratio = "-1/2" }), api.OK}, {"a curve of one number", lineUp(nil, "table 1 5/2 0*3 : 5/2"), api.OK}, {"a curve of one other number", lineUp(nil, "table 1 0 0*3 : 5/2"), api.ErrConflict},
		{"a great table", lineUp(nil, "adder 1 "+string(long)+" 0*1", "table 2 0 1*"+string(long)+" : 0 0 0 0 0 0 0 0 0 0 0 0 1"), api.ErrConflict}, {"a great table of 1", lineUp(nil, "adder 1 "+string(long)+" 0*1", "table 2 1 1*1/"+string(long)+" : 0 0 0 0 0 0 0 0 0 0 0 0 1"), api.OK},
	} {
		expectError(t, row.what, CheckPlan(row.p), row.want)
	}
}

func TestIntegratorsAndStarts(t *testing.T) {
	n, err := Integrators(mixed())
	expect(t, "Integrators of the mixed plan", n, err, 3, api.OK)
	n, err = Integrators(api.Plan{Shafts: 1})
	expect(t, "Integrators of no units", n, err, 0, api.OK)
	n, err = Integrators(line(24, 5))
	expect(t, "Integrators of 24", n, err, 24, api.OK)
	n, err = Integrators(line(25, 0))
	expect(t, "Integrators of 25", n, err, 0, api.ErrMany)
	starts, err := Starts(mixed())
	expectList(t, "Starts of the mixed plan", starts, err, []api.Rat{"0", "0", "1", "8", "7/4", "3"}, api.OK)
	starts, err = Starts(api.Plan{Shafts: 1})
	expectList(t, "Starts of no units", starts, err, []api.Rat{"0"}, api.OK)
	starts, err = Starts(api.Plan{Shafts: 2})
	expectList(t, "Starts of no plan", starts, err, nil, api.ErrDriver)
}

func TestParts(t *testing.T) {
	for shaft, want := range [][]int{nil, {0, 1, 2, 3}, {0, 1, 2, 3, 4}, {0, 1, 2, 3}, {2, 3}, {3}} {
		got, err := Parts(mixed(), shaft)
		expectList(t, "Parts", got, err, want, api.OK)
	}
	got, err := Parts(circle(), 1)
	expectList(t, "Parts of a circle", got, err, []int{0, 1}, api.OK)
	for _, shaft := range []int{-1, 6, math.MinInt, math.MaxInt} {
		got, err = Parts(mixed(), shaft)
		expectList(t, "Parts of a shaft that is not there", got, err, nil, api.ErrUnknown)
	}
	got, err = Parts(api.Plan{Shafts: 2}, 7)
	expectList(t, "Parts of no plan", got, err, nil, api.ErrDriver)
}

// movesWith reports whether a unit moves with another one.
func movesWith(p api.Plan, i, j int) bool {
	for k, f := range p.Units[i].Feeds {
		if f.Shaft == p.Units[j].Out && (p.Units[i].Kind != integrator || k == 1) {
			return true
		}
	}
	return false
}

// orders visits all orders of the numbers below n, the lexicographically first one first.
func orders(n int, visit func(order []int) bool) {
	var try func(order []int) bool
	try = func(order []int) bool {
		if len(order) == n {
			return visit(order)
		}
		for i := range n {
			if !slices.Contains(order, i) && !try(append(slices.Clone(order), i)) {
				return false
			}
		}
		return true
	}
	try(nil)
}

func TestOrder(t *testing.T) {
	got, err := Order(mixed())
	expectList(t, "Order of the mixed plan", got, err, []int{3, 2, 1, 0, 4}, api.OK)
	got, err = Order(circle())
	expectList(t, "Order of the circle", got, err, []int{0, 1}, api.OK)
	got, err = Order(api.Plan{Shafts: 1})
	expectList(t, "Order of no units", got, err, nil, api.OK)
	got, err = Order(lineUp(nil, "adder 1 0 1*1"))
	expectList(t, "Order of a loop", got, err, nil, api.ErrLoop)
	r := rand.New(rand.NewSource(1))
	moved := 0
	for range 300 {
		p := somePlan(t, r, 1+r.Intn(6), integrator, adder, table)
		var want []int
		orders(len(p.Units), func(order []int) bool {
			for at, i := range order {
				for _, j := range order[at:] {
					if movesWith(p, i, j) {
						return true
					}
				}
			}
			want = order
			return false
		})
		if !slices.IsSorted(want) {
			moved++
		}
		got, err := Order(p)
		expectList(t, "Order", got, err, want, api.OK)
	}
	if moved < 100 {
		t.Errorf("only %d plans are in another order", moved)
	}
}

// TestLoops compares loops with those that a search from unit to unit finds.
func TestLoops(t *testing.T) {
	r := rand.New(rand.NewSource(2))
	loops := 0
	for range 1000 {
		p := api.Plan{Shafts: 2 + r.Intn(5)}
		for i := range p.Shafts - 1 {
			u := api.Unit{Kind: []string{integrator, adder}[r.Intn(2)], Out: i + 1, Start: "1"}
			for range 2 {
				u.Feeds = append(u.Feeds, api.Feed{Shaft: r.Intn(p.Shafts), Ratio: "1"})
			}
			p.Units = append(p.Units, u)
		}
		var leads func(i, to, steps int) bool
		leads = func(i, to, steps int) bool {
			for j := range p.Units {
				if movesWith(p, i, j) && (j == to || steps > 1 && leads(j, to, steps-1)) {
					return true
				}
			}
			return false
		}
		want := api.OK
		for i := range p.Units {
			if leads(i, i, len(p.Units)) {
				want = api.ErrLoop
			}
		}
		if want != api.OK {
			loops++
		}
		expectError(t, "CheckPlan", CheckPlan(p), want)
	}
	if loops < 200 || loops > 900 {
		t.Errorf("%d of 1000 plans have loops", loops)
	}
}

func TestPrune(t *testing.T) {
	got, err := Prune(mixed())
	want := lineUp([]int{4, 2, 4}, "adder 2 8 4*2 1*-1", "integrator 1 0 2*1 3*1/2", "table 3 7/4 4*1/2 : 3/2 0 1/9", "integrator 4 3 4*1 0*2")
	expectPlan(t, "Prune of the mixed plan", got, err, want, api.OK)
	got, err = Prune(changed(func(p *api.Plan) { p.Outputs = []int{4, 0} }))
	expectPlan(t, "Prune of a table", got, err, lineUp([]int{1, 0}, "table 1 7/4 2*1/2 : 3/2 0 1/9", "integrator 2 3 2*1 0*2"), api.OK)
	got, err = Prune(changed(func(p *api.Plan) { p.Outputs = nil }))
	expectPlan(t, "Prune without outputs", got, err, api.Plan{Shafts: 1}, api.OK)
	got, err = Prune(changed(func(p *api.Plan) { p.Outputs = []int{2} }))
	want = mixed()
	want.Outputs = []int{2}
	expectPlan(t, "Prune of what is needed", got, err, want, api.OK)
	got, err = Prune(api.Plan{})
	expectPlan(t, "Prune of no plan", got, err, api.Plan{}, api.ErrRange)
}

func TestRenumber(t *testing.T) {
	got, err := Renumber(mixed(), []int{0, 4, 5, 1, 3, 2})
	want := lineUp([]int{2, 1, 2}, "adder 1 8 2*2 4*-1", "integrator 4 0 1*1 3*1/2", "table 3 7/4 2*1/2 : 3/2 0 1/9", "integrator 2 3 2*1 0*2", "integrator 5 1 5*1 1*-1")
	expectPlan(t, "Renumber", got, err, want, api.OK)
	for _, row := range []struct {
		what string
		p    api.Plan
		to   []int
		want api.Errno
	}{
		{"too few numbers", mixed(), []int{0, 1, 2, 3, 4}, api.ErrShape}, {"too many numbers", mixed(), []int{0, 1, 2, 3, 4, 5, 6}, api.ErrShape}, {"no numbers", mixed(), nil, api.ErrShape}, {"no plan", api.Plan{}, nil, api.ErrRange},
		{"the number 6 of 6", mixed(), []int{0, 1, 2, 3, 4, 6}, api.ErrUnknown}, {"a number below 0", mixed(), []int{0, 1, -1, 1, 4, 5}, api.ErrUnknown}, {"a number twice", mixed(), []int{0, 1, 2, 1, 6, 5}, api.ErrTwice}, {"unknown before twice", mixed(), []int{0, 1, 6, 1, 4, 5}, api.ErrUnknown},
		{"another number for t", mixed(), []int{1, 0, 2, 3, 4, 5}, api.ErrOrder}, {"twice before the order", mixed(), []int{1, 0, 2, 3, 4, 4}, api.ErrTwice}, {"unknown before the order", mixed(), []int{6, 0, 2, 3, 4, 5}, api.ErrUnknown},
	} {
		got, err := Renumber(row.p, row.to)
		expectPlan(t, "Renumber: "+row.what, got, err, api.Plan{}, row.want)
	}
}

// TestRenumberBack has numbers, and then their inverse.
func TestRenumberBack(t *testing.T) {
	r := rand.New(rand.NewSource(3))
	for range 100 {
		p := somePlan(t, r, 1+r.Intn(8), integrator, adder, table)
		to := append([]int{0}, r.Perm(p.Shafts-1)...)
		back := make([]int, p.Shafts)
		for i := range to {
			if i > 0 {
				to[i]++
			}
			back[to[i]] = i
		}
		there := must[api.Plan](t, "Renumber")(Renumber(p, to))
		expectError(t, "CheckPlan of a result", CheckPlan(there), api.OK)
		got, err := Renumber(there, back)
		expectPlan(t, "Renumber back", got, err, p, api.OK)
	}
}

// TestPlansShareNothing changes what a result has, and looks at the argument.
func TestPlansShareNothing(t *testing.T) {
	p := mixed()
	pruned := must[api.Plan](t, "Prune")(Prune(p))
	renumbered := must[api.Plan](t, "Renumber")(Renumber(p, []int{0, 1, 2, 3, 4, 5}))
	for _, q := range []api.Plan{pruned, renumbered} {
		for _, u := range q.Units {
			for i := range u.Feeds {
				u.Feeds[i] = api.Feed{}
			}
			for i := range u.Curve {
				u.Curve[i] = ""
			}
		}
		q.Outputs[0] = 9
	}
	expectPlan(t, "the argument", p, api.OK, mixed(), api.OK)
}
