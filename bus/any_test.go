package bus

import (
	"math"
	"math/rand"
	"slices"
	"testing"

	"integraph/api"
)

// strange are arguments that are well-formed, nearly so, and not at all.
var (
	strangeInts = []int{0, 1, 2, 3, 4, -1, 7, 8, 63, 64, 97, 98, 99, 100, math.MaxInt, math.MinInt}
	strangeRats = []api.Rat{"0", "1", "-1", "1/2", "-0", "", "2/4", "x", "1 2", "1\n", digits("9", 600), digits("9", 601)}
)

func pick[T any](r *rand.Rand, list []T) T { return list[r.Intn(len(list))] }

// strangely changes an element of a list now and then, or the length of the list.
func strangely[T any](r *rand.Rand, list []T, by []T) []T {
	list = slices.Clone(list)
	switch n := r.Intn(30); {
	case n == 0:
		list = append(list, pick(r, by))
	case n == 1 && len(list) > 0:
		list = list[1:]
	case n < 4 && len(list) > 0:
		list[r.Intn(len(list))] = pick(r, by)
	}
	return list
}

func strangePlan(t *testing.T, r *rand.Rand) api.Plan {
	p := somePlan(t, r, 1+r.Intn(5))
	switch r.Intn(20) {
	case 0:
		p.Shafts = pick(r, strangeInts)
	case 1:
		p.Units[0].Feeds[0].Shaft = pick(r, strangeInts)
	case 2:
		p.Units[0].Feeds[0].Ratio = pick(r, strangeRats)
	case 3:
		p.Units[0].Start = pick(r, strangeRats)
	case 4:
		p.Units[0].Out = pick(r, strangeInts)
	case 5:
		p.Units[0].Kind = "wheel"
	case 6:
		p.Outputs = append(p.Outputs, pick(r, strangeInts))
	}
	return p
}

func strangeNets(r *rand.Rand, columns int) []api.Net {
	nets := strangely(r, anyNets(r, 12, columns), []api.Net{{}, {Shaft: pick(r, strangeInts), Columns: []int{0}}, {Shaft: 1, Columns: strangeInts}})
	if len(nets) > 0 {
		at := r.Intn(len(nets))
		nets[at].Columns = strangely(r, nets[at].Columns, strangeInts)
	}
	if r.Intn(40) == 0 {
		nets = append(nets, make([]api.Net, 64)...)
	}
	return nets
}

// scratch spoils a list, and what is behind its end: what shares memory with it would change.
func scratch[T any](list []T) { clear(list[:cap(list)]) }

// scratchLayout spoils a layout.
func scratchLayout(l api.Layout) {
	scratch(l.Order)
	scratch(l.Tracks)
}

// TestAny calls each function with strange arguments (P1): none panics, no result stands beside an error, and neither
// they nor what is done with their results changes an argument.
func TestAny(t *testing.T) {
	r := rand.New(rand.NewSource(13))
	right := map[string]int{}
	expectZero := func(what string, err api.Errno, isZero bool) {
		t.Helper()
		if err != api.OK && !isZero {
			t.Errorf("%s: a result beside the error %d", what, err)
		}
		if err == api.OK {
			right[what]++
		}
	}
	for range 2500 {
		n := 1 + r.Intn(6)
		p, nets, columns := strangePlan(t, r), strangeNets(r, n), n
		l := api.Layout{Order: r.Perm(n), Tracks: r.Perm(64)[:min(len(nets), 64)]}
		if r.Intn(2) == 0 {
			if planNets, planColumns, err := Nets(p); err == api.OK {
				nets, columns, l = planNets, planColumns, someLayout(t, r, p)
			}
		}
		if l.Order, l.Tracks = strangely(r, l.Order, strangeInts), strangely(r, l.Tracks, strangeInts); r.Intn(20) == 0 {
			columns = pick(r, strangeInts)
		}
		clique := strangely(r, r.Perm(3), strangeInts)
		planBefore, netsBefore, layoutBefore, cliqueBefore := copyOf(p), copyOfNets(nets), copyOfLayout(l), slices.Clone(clique)

		for _, c := range calls() {
			err, isZero := c.run(nets, columns, p, l)
			expectZero(c.name, err, isZero)
		}
		expectZero("CheckNets", CheckNets(nets, columns), true)
		expectZero("CheckClique", CheckClique(nets, columns, l.Order, clique), true)
		list, number, err := Nets(p)
		expectZero("Nets", err, list == nil && number == 0)
		for _, net := range list {
			scratch(net.Columns)
		}
		scratch(list)
		extents, _ := Extents(nets, columns, l.Order)
		scratch(extents)
		tracks, _, _ := Tracks(nets, columns, l.Order)
		scratch(tracks)
		found, _, _ := Clique(nets, columns, l.Order)
		scratch(found)
		changed, _ := Arrange(nets, columns, l)
		scratchLayout(changed)
		changed, _ = Mirror(nets, columns, l)
		scratchLayout(changed)
		best, err := Best(nets, columns)
		expectZero("Best", err, sameLayout(best, api.Layout{}))
		scratchLayout(best)
		if !samePlan(p, planBefore) || !sameNets(nets, netsBefore) || !sameLayout(l, layoutBefore) || !slices.Equal(clique, cliqueBefore) {
			t.Fatal("an argument is changed")
		}
	}
	for _, what := range []string{"CheckNets", "Nets", "Extents", "Tracks", "Clique", "CheckClique", "Length", "CheckLayout", "Crossings", "Bound", "Arrange", "Best", "Mirror", "Table", "Instructions"} {
		if right[what] < 100 {
			t.Errorf("%s has only %d results", what, right[what])
		}
	}
}

// TestNothingIsShared spoils each list of a result, which changes no other one.
func TestNothingIsShared(t *testing.T) {
	planLists := func() [][]int {
		p, l, _, err := ReadTable(mixedTable)
		expectError(t, "ReadTable", err, api.OK)
		return [][]int{p.Outputs, l.Order, l.Tracks}
	}
	netLists := func() [][]int {
		nets, _, err := Nets(mixed())
		expectError(t, "Nets", err, api.OK)
		var all [][]int
		for _, net := range nets {
			all = append(all, net.Columns)
		}
		return all
	}
	layoutLists := func(l api.Layout, err api.Errno) [][]int {
		expectError(t, "a layout", err, api.OK)
		return [][]int{l.Order, l.Tracks}
	}
	start := api.Layout{Order: count(4), Tracks: count(4)}
	for _, call := range []func() [][]int{
		planLists, netLists,
		func() [][]int { return layoutLists(Best(someNets(), 4)) },
		func() [][]int { return layoutLists(Arrange(someNets(), 4, start)) },
		func() [][]int { return layoutLists(Mirror(someNets(), 4, start)) },
	} {
		list, again := call(), call()
		for i := range list {
			scratch(list[i])
			for j := i + 1; j < len(list); j++ {
				if !slices.Equal(list[j], again[j]) {
					t.Errorf("the lists %d and %d share memory", i, j)
				}
			}
		}
	}
	p, _, _, err := ReadTable(mixedTable)
	expectError(t, "ReadTable", err, api.OK)
	for i := range p.Units {
		scratch(p.Units[i].Feeds)
		scratch(p.Units[i].Curve)
		for j, u := range mixed().Units[i+1:] {
			if other := p.Units[i+1+j]; !slices.Equal(other.Feeds, u.Feeds) || !slices.Equal(other.Curve, u.Curve) {
				t.Errorf("the units %d and %d share memory", i, i+1+j)
			}
		}
	}
}
