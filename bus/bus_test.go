package bus

import (
	"math"
	"math/big"
	"math/rand"
	"slices"
	"strconv"
	"strings"
	"testing"

	"integraph/api"
	"integraph/plan"
)

// digits returns a digit n times.
func digits(digit string, n int) api.Rat { return api.Rat(strings.Repeat(digit, n)) }

// expectError reports an error that is not the wanted one.
func expectError(t *testing.T, what string, got, want api.Errno) {
	t.Helper()
	if got != want {
		t.Errorf("%s: got the error %d, want %d", what, got, want)
	}
}

// expect reports a result, or an error, that is not the wanted one.
func expect[T comparable](t *testing.T, what string, got T, err api.Errno, want T, wantError api.Errno) {
	t.Helper()
	if got != want || err != wantError {
		t.Errorf("%s: got %v and the error %d, want %v and %d", what, got, err, want, wantError)
	}
}

// expectList reports a list, or an error, that is not the wanted one.
func expectList[T comparable](t *testing.T, what string, got []T, err api.Errno, want []T, wantError api.Errno) {
	t.Helper()
	if !slices.Equal(got, want) || err != wantError {
		t.Errorf("%s: got %v and the error %d, want %v and %d", what, got, err, want, wantError)
	}
}

// expectLayout reports a layout, or an error, that is not the wanted one.
func expectLayout(t *testing.T, what string, got api.Layout, err api.Errno, want api.Layout, wantError api.Errno) {
	t.Helper()
	expectList(t, what+": order", got.Order, err, want.Order, wantError)
	expectList(t, what+": tracks", got.Tracks, err, want.Tracks, wantError)
}

// expectNets reports nets, or an error, that are not the wanted ones.
func expectNets(t *testing.T, what string, got []api.Net, err api.Errno, want []api.Net, wantError api.Errno) {
	t.Helper()
	if !sameNets(got, want) || err != wantError {
		t.Errorf("%s: got %v and the error %d, want %v and %d", what, got, err, want, wantError)
	}
}

func sameNets(a, b []api.Net) bool {
	return slices.EqualFunc(a, b, func(x, y api.Net) bool { return x.Shaft == y.Shaft && slices.Equal(x.Columns, y.Columns) })
}

func sameLayout(a, b api.Layout) bool {
	return slices.Equal(a.Order, b.Order) && slices.Equal(a.Tracks, b.Tracks)
}

func samePlan(p, q api.Plan) bool {
	return p.Shafts == q.Shafts && slices.Equal(p.Outputs, q.Outputs) && slices.EqualFunc(p.Units, q.Units, func(u, v api.Unit) bool {
		return u.Kind == v.Kind && u.Out == v.Out && u.Start == v.Start && slices.Equal(u.Feeds, v.Feeds) && slices.Equal(u.Curve, v.Curve)
	})
}

// copyOf returns a plan that shares no memory.
func copyOf(p api.Plan) api.Plan {
	p.Units, p.Outputs = slices.Clone(p.Units), slices.Clone(p.Outputs)
	for i, u := range p.Units {
		p.Units[i].Feeds, p.Units[i].Curve = slices.Clone(u.Feeds), slices.Clone(u.Curve)
	}
	return p
}

// copyOfNets returns nets that share no memory.
func copyOfNets(nets []api.Net) []api.Net {
	nets = slices.Clone(nets)
	for i, n := range nets {
		nets[i].Columns = slices.Clone(n.Columns)
	}
	return nets
}

// copyOfLayout returns a layout that shares no memory.
func copyOfLayout(l api.Layout) api.Layout {
	return api.Layout{Order: slices.Clone(l.Order), Tracks: slices.Clone(l.Tracks)}
}

// lineUp returns a plan with some outputs, and a unit for each line: its kind, its shaft, its start, its feeds with a
// star between shaft and ratio, and, behind a colon, its curve.
func lineUp(outputs []int, lines ...string) api.Plan {
	p := api.Plan{Shafts: len(lines) + 1, Outputs: outputs}
	for _, line := range lines {
		connected, curve, _ := strings.Cut(line, " : ")
		words := strings.Fields(connected)
		out, _ := strconv.Atoi(words[1])
		u := api.Unit{Kind: words[0], Out: out, Start: api.Rat(words[2])}
		for _, word := range words[3:] {
			shaft, ratio, _ := strings.Cut(word, "*")
			number, _ := strconv.Atoi(shaft)
			u.Feeds = append(u.Feeds, api.Feed{Shaft: number, Ratio: api.Rat(ratio)})
		}
		for _, word := range strings.Fields(curve) {
			u.Curve = append(u.Curve, api.Rat(word))
		}
		p.Units = append(p.Units, u)
	}
	return p
}

// circle is the circle of chapter 4.
func circle() api.Plan {
	return lineUp([]int{1, 2}, "integrator 1 1 2*1 0*1", "integrator 2 0 1*-1 0*1")
}

// mixed is a plan with two tables around an adder, in which units stand before those that drive them.
func mixed() api.Plan {
	return lineUp([]int{3, 1}, "table 4 9/4 3*1/2 : 0 0 1", "adder 3 3 1*-2/3 0*-5/2 1*1", "integrator 1 1 4*-2/5 0*3/7", "table 2 -7/2 0*4 : -7/2 2")
}

// chain is a plan of adders, each of which is fed by the one before it, so that each of their shafts but the last one
// is a net.
func chain(adders int) api.Plan {
	p := api.Plan{Shafts: adders + 1}
	for i := range adders {
		p.Units = append(p.Units, api.Unit{Kind: "adder", Feeds: []api.Feed{{Shaft: i, Ratio: "1"}}, Out: i + 1, Start: "0"})
	}
	return p
}

// netsOf returns the nets of the shafts from 1 on with these columns.
func netsOf(columns ...[]int) []api.Net {
	var nets []api.Net
	for i, list := range columns {
		nets = append(nets, api.Net{Shaft: i + 1, Columns: list})
	}
	return nets
}

// someNets are the nets of the examples, for 4 columns.
func someNets() []api.Net { return netsOf([]int{0, 2}, []int{1, 3}, []int{0, 1}, []int{2, 3}) }

// count returns the numbers from 0 to n - 1.
func count(n int) []int {
	list := make([]int, n)
	for i := range list {
		list[i] = i
	}
	return list
}

// anyNets returns some nets of shafts in any order.
func anyNets(r *rand.Rand, most, columns int) []api.Net {
	var nets []api.Net
	for _, shaft := range r.Perm(api.MaxShafts)[:r.Intn(most+1)] {
		list := r.Perm(columns)[:1+r.Intn(min(columns, 4))]
		slices.Sort(list)
		nets = append(nets, api.Net{Shaft: shaft, Columns: list})
	}
	return nets
}

// anyTracks puts each net on one of some tracks, or on one above these where all have nets that it meets.
func anyTracks(r *rand.Rand, nets []api.Net, order []int, tracks int) []int {
	var list []int
	for i := range nets {
		track := r.Intn(tracks)
		for j := 0; j < i; j++ {
			if list[j] == track && meetsAt(nets[i], nets[j], order) {
				track, j = track+1, -1
			}
		}
		list = append(list, track)
	}
	return list
}

// isAround reports whether a position is between two columns of a net, or at one.
func isAround(net api.Net, order []int, position int) bool {
	isIn := func(column int) bool { return slices.Contains(net.Columns, column) }
	return slices.ContainsFunc(order[:position+1], isIn) && slices.ContainsFunc(order[position:], isIn)
}

// meetsAt reports whether two nets are around a position.
func meetsAt(a, b api.Net, order []int) bool {
	for position := range order {
		if isAround(a, order, position) && isAround(b, order, position) {
			return true
		}
	}
	return false
}

// someRat returns a number with small numerator and denominator.
func someRat(r *rand.Rand, most int) api.Rat {
	return api.Rat(big.NewRat(int64(r.Intn(2*most+1)-most), int64(1+r.Intn(most))).RatString())
}

// someRatio returns such a number that is not 0.
func someRatio(r *rand.Rand, most int) api.Rat {
	for {
		if a := someRat(r, most); a != "0" {
			return a
		}
	}
}

// somePlan returns a plan of some units with small numbers, whose shafts and units are in any order.
func somePlan(t *testing.T, r *rand.Rand, units int) api.Plan {
	t.Helper()
	number := []int{0} // of the shafts
	for _, i := range r.Perm(units) {
		number = append(number, i+1)
	}
	p := api.Plan{Shafts: units + 1}
	for range r.Intn(4) {
		p.Outputs = append(p.Outputs, r.Intn(units+1))
	}
	for i := range units {
		u := api.Unit{Kind: []string{"integrator", "adder", "table"}[r.Intn(3)], Out: number[i+1], Start: someRat(r, 5)}
		from := []int{r.Intn(i + 1)} // only what stands before can drive a unit
		switch u.Kind {
		case "integrator":
			from = []int{r.Intn(units + 1), r.Intn(i + 1)} // but for the integrand
		case "adder":
			for range r.Intn(3) {
				from = append(from, r.Intn(i+1))
			}
		case "table":
			from[0] = 0 // which stands at 0
			u.Curve = []api.Rat{u.Start}
			for range r.Intn(4) {
				u.Curve = append(u.Curve, someRat(r, 5))
			}
		}
		for _, shaft := range from {
			u.Feeds = append(u.Feeds, api.Feed{Shaft: number[shaft], Ratio: someRatio(r, 9)})
		}
		p.Units = append(p.Units, u)
	}
	r.Shuffle(units, func(i, j int) { p.Units[i], p.Units[j] = p.Units[j], p.Units[i] })
	expectError(t, "CheckPlan of somePlan", plan.CheckPlan(p), api.OK)
	return p
}

// someLayout returns a layout of the nets of a plan.
func someLayout(t *testing.T, r *rand.Rand, p api.Plan) api.Layout {
	t.Helper()
	nets, columns, err := Nets(p)
	expectError(t, "Nets", err, api.OK)
	order := r.Perm(columns)
	return api.Layout{Order: order, Tracks: anyTracks(r, nets, order, 12)}
}

func TestCheckNets(t *testing.T) {
	far := math.MaxInt
	many := func(n int) []api.Net { return netsOf(slices.Repeat([][]int{{0}}, n)...) }
	all := make([]api.Net, 64)
	for i := range all {
		all[i] = api.Net{Shaft: 99 - i, Columns: count(97)}
	}
	for _, row := range []struct {
		what    string
		nets    []api.Net
		columns int
		want    api.Errno
	}{
		{"the example", someNets(), 4, api.OK},
		{"more columns", someNets(), 97, api.OK},
		{"no nets", nil, 1, api.OK},
		{"as much as there may be", all, 97, api.OK},
		{"no columns", someNets(), 0, api.ErrRange},
		{"columns below 0", many(65), -1, api.ErrRange},
		{"98 columns", []api.Net{{Shaft: -1}}, 98, api.ErrRange},
		{"very many columns", nil, far, api.ErrRange},
		{"64 nets", many(64), 1, api.OK},
		{"65 nets", many(65), 1, api.ErrMany},
		{"65 nets in front of a wrong one", append([]api.Net{{Shaft: 100}}, many(64)...), 1, api.ErrMany},
		{"the shaft 0", []api.Net{{Shaft: 0, Columns: []int{0}}}, 1, api.OK},
		{"the shaft 99", []api.Net{{Shaft: 99, Columns: []int{0}}}, 1, api.OK},
		{"the shaft 100", []api.Net{{Shaft: 100}}, 1, api.ErrRange},
		{"the shaft -1", []api.Net{{Shaft: -1}}, 1, api.ErrRange},
		{"a far shaft", []api.Net{{Shaft: far, Columns: []int{0}}}, 1, api.ErrRange},
		{"a shaft twice", []api.Net{{Shaft: 3, Columns: []int{0}}, {Shaft: 4, Columns: []int{1}}, {Shaft: 3}}, 2, api.ErrTwice},
		{"an error in front of a shaft twice", []api.Net{{Shaft: 3, Columns: []int{2}}, {Shaft: 3}}, 2, api.ErrUnknown},
		{"a shaft twice in front of an error", []api.Net{{Shaft: 3, Columns: []int{1}}, {Shaft: 3}, {Shaft: 100}}, 2, api.ErrTwice},
		{"a net without columns", []api.Net{{Shaft: 3, Columns: []int{0}}, {Shaft: 2}, {Shaft: -1}}, 2, api.ErrEmpty},
		{"a column -1", netsOf([]int{0}, []int{-1}), 2, api.ErrUnknown},
		{"a column as high as their number", netsOf([]int{0, 1, 2}, nil), 2, api.ErrUnknown},
		{"a far column", netsOf([]int{0, far}), 97, api.ErrUnknown},
		{"a column twice", netsOf([]int{0, 1, 1, 2}), 2, api.ErrOrder},
		{"columns that descend", netsOf([]int{0, 3, 2}), 4, api.ErrOrder},
		{"an unknown column in front of a descent", netsOf([]int{4, 3}), 4, api.ErrUnknown},
		{"a descent to an unknown column", netsOf([]int{0, -1}), 4, api.ErrUnknown},
		{"a descent in front of an unknown column", netsOf([]int{1, 0, 4}), 4, api.ErrOrder},
	} {
		expectError(t, row.what, CheckNets(row.nets, row.columns), row.want)
	}
}

func TestNets(t *testing.T) {
	for _, row := range []struct {
		what    string
		p       api.Plan
		want    []api.Net
		columns int
	}{
		{"the circle", circle(), []api.Net{{Shaft: 0, Columns: []int{0, 1, 2}}, {Shaft: 1, Columns: []int{0, 1, 2}}, {Shaft: 2, Columns: []int{0, 1, 2}}}, 3},
		{"a mixed plan", mixed(), []api.Net{{Shaft: 0, Columns: []int{1, 2, 3, 4}}, {Shaft: 1, Columns: []int{1, 2, 4}}, {Shaft: 3, Columns: []int{0, 1, 4}}, {Shaft: 4, Columns: []int{0, 2}}}, 5},
		{"a plan without units", api.Plan{Shafts: 1}, nil, 1},
		{"a plan that shows t", api.Plan{Shafts: 1, Outputs: []int{0, 0}}, nil, 1},
		{"a shaft that feeds its own unit alone", lineUp(nil, "integrator 1 1 1*1 0*1"), []api.Net{{Shaft: 0, Columns: []int{0, 1}}}, 2},
		{"a shaft at the desk twice", lineUp([]int{1, 1}, "integrator 1 1 1*1 0*1"), []api.Net{{Shaft: 0, Columns: []int{0, 1}}, {Shaft: 1, Columns: []int{0, 1}}}, 2},
		{"a shaft that feeds a unit twice", lineUp(nil, "adder 2 0 1*1 0*1 1*2", "adder 1 0 0*1"), []api.Net{{Shaft: 0, Columns: []int{0, 1, 2}}, {Shaft: 1, Columns: []int{0, 1}}}, 3},
	} {
		nets, columns, err := Nets(row.p)
		expectNets(t, row.what, nets, err, row.want, api.OK)
		expect(t, row.what, columns, err, row.columns, api.OK)
		expectError(t, "CheckNets: "+row.what, CheckNets(nets, columns), api.OK)
	}
	for adders, want := range map[int]api.Errno{64: api.OK, 65: api.ErrMany, 96: api.ErrMany} {
		nets, columns, err := Nets(chain(adders))
		expectError(t, "Nets of a chain", err, want)
		if isThere := len(nets) == adders && columns == adders+1; isThere != (want == api.OK) || want != api.OK && (nets != nil || columns != 0) {
			t.Errorf("a chain of %d has the nets %v and %d columns", adders, nets, columns)
		}
	}
	wrong := mixed()
	wrong.Units[2].Feeds[1].Ratio = "0"
	nets, columns, err := Nets(wrong)
	expectNets(t, "a wrong plan", nets, err, nil, api.ErrZero)
	expect(t, "a wrong plan", columns, err, 0, api.ErrZero)
	long := chain(96)
	long.Units[95].Kind = "wheel"
	_, _, err = Nets(long)
	expectError(t, "a wrong plan with too many nets", err, api.ErrKind)
}

// TestNetsOfAny looks for the columns of each shaft of a plan, one after another.
func TestNetsOfAny(t *testing.T) {
	r := rand.New(rand.NewSource(1))
	for range 300 {
		p := somePlan(t, r, r.Intn(9))
		var want []api.Net
		for shaft := range p.Shafts {
			var columns []int
			for i, u := range p.Units {
				if u.Out == shaft || slices.ContainsFunc(u.Feeds, func(f api.Feed) bool { return f.Shaft == shaft }) {
					columns = append(columns, i)
				}
			}
			if shaft == 0 || slices.Contains(p.Outputs, shaft) {
				columns = append(columns, len(p.Units))
			}
			if len(columns) >= 2 {
				want = append(want, api.Net{Shaft: shaft, Columns: columns})
			}
		}
		nets, columns, err := Nets(p)
		expectNets(t, "Nets", nets, err, want, api.OK)
		expect(t, "columns", columns, err, len(p.Units)+1, api.OK)
	}
}

func TestExtentsAndLength(t *testing.T) {
	for _, row := range []struct {
		what    string
		nets    []api.Net
		order   []int
		extents [][2]int
		length  int
	}{
		{"example 1", someNets(), []int{0, 1, 2, 3}, [][2]int{{0, 2}, {1, 3}, {0, 1}, {2, 3}}, 6},
		{"example 3", someNets(), []int{1, 0, 2, 3}, [][2]int{{1, 2}, {0, 3}, {0, 1}, {2, 3}}, 6},
		{"another order", someNets(), []int{2, 0, 1, 3}, [][2]int{{0, 1}, {2, 3}, {1, 2}, {0, 3}}, 6},
		{"single columns", netsOf([]int{2}, []int{0, 1, 2}, []int{1}), []int{2, 0, 1}, [][2]int{{0, 0}, {0, 2}, {2, 2}}, 2},
		{"no nets", nil, []int{0}, nil, 0},
		{"one column", netsOf([]int{0}), []int{0}, [][2]int{{0, 0}}, 0},
	} {
		extents, err := Extents(row.nets, len(row.order), row.order)
		expectList(t, row.what, extents, err, row.extents, api.OK)
		length, err := Length(row.nets, len(row.order), row.order)
		expect(t, row.what, length, err, row.length, api.OK)
	}
}

// TestExtentsOfAny counts the positions around which a net is.
func TestExtentsOfAny(t *testing.T) {
	r := rand.New(rand.NewSource(2))
	for range 200 {
		columns := 1 + r.Intn(12)
		if r.Intn(10) == 0 {
			columns = 97
		}
		nets, order := anyNets(r, 20, columns), r.Perm(columns)
		extents, err := Extents(nets, columns, order)
		expectError(t, "Extents", err, api.OK)
		sum := 0
		for i, net := range nets {
			for position := range columns {
				if isIn := extents[i][0] <= position && position <= extents[i][1]; isIn != isAround(net, order, position) {
					t.Fatalf("the extent of %v in the order %v is %v", net, order, extents[i])
				}
			}
			sum += extents[i][1] - extents[i][0]
		}
		length, err := Length(nets, columns, order)
		expect(t, "Length", length, err, sum, api.OK)
	}
}

// call is a function with nets and an order or a layout, or with a plan and a layout.
type call struct {
	name               string
	isOrder, isPlanned bool
	run                func(nets []api.Net, columns int, p api.Plan, l api.Layout) (err api.Errno, isZero bool)
}

// calls returns the functions with an order or a layout.
func calls() []call {
	return []call{
		{name: "Extents", isOrder: true, run: func(nets []api.Net, columns int, p api.Plan, l api.Layout) (api.Errno, bool) {
			extents, e := Extents(nets, columns, l.Order)
			return e, extents == nil
		}},
		{name: "Tracks", isOrder: true, run: func(nets []api.Net, columns int, p api.Plan, l api.Layout) (api.Errno, bool) {
			tracks, n, e := Tracks(nets, columns, l.Order)
			return e, tracks == nil && n == 0
		}},
		{name: "Clique", isOrder: true, run: func(nets []api.Net, columns int, p api.Plan, l api.Layout) (api.Errno, bool) {
			list, at, e := Clique(nets, columns, l.Order)
			return e, list == nil && at == 0
		}},
		{name: "CheckClique", isOrder: true, run: func(nets []api.Net, columns int, p api.Plan, l api.Layout) (api.Errno, bool) {
			return CheckClique(nets, columns, l.Order, nil), true
		}},
		{name: "CheckClique of a wrong net", isOrder: true, run: func(nets []api.Net, columns int, p api.Plan, l api.Layout) (api.Errno, bool) {
			e := CheckClique(nets, columns, l.Order, []int{-1})
			if e == api.ErrUnknown && CheckClique(nets, columns, l.Order, nil) == api.OK {
				return api.OK, true
			}
			return e, true
		}},
		{name: "Length", isOrder: true, run: func(nets []api.Net, columns int, p api.Plan, l api.Layout) (api.Errno, bool) {
			n, e := Length(nets, columns, l.Order)
			return e, n == 0
		}},
		{name: "CheckLayout", run: func(nets []api.Net, columns int, p api.Plan, l api.Layout) (api.Errno, bool) {
			return CheckLayout(nets, columns, l), true
		}},
		{name: "Crossings", run: func(nets []api.Net, columns int, p api.Plan, l api.Layout) (api.Errno, bool) {
			n, e := Crossings(nets, columns, l)
			return e, n == 0
		}},
		{name: "Bound", run: func(nets []api.Net, columns int, p api.Plan, l api.Layout) (api.Errno, bool) {
			n, e := Bound(nets, columns, l)
			return e, n == 0
		}},
		{name: "Arrange", run: func(nets []api.Net, columns int, p api.Plan, l api.Layout) (api.Errno, bool) {
			arranged, e := Arrange(nets, columns, l)
			return e, sameLayout(arranged, api.Layout{})
		}},
		{name: "Mirror", run: func(nets []api.Net, columns int, p api.Plan, l api.Layout) (api.Errno, bool) {
			mirrored, e := Mirror(nets, columns, l)
			return e, sameLayout(mirrored, api.Layout{})
		}},
		{name: "Table", isPlanned: true, run: func(nets []api.Net, columns int, p api.Plan, l api.Layout) (api.Errno, bool) {
			s, e := Table(p, l)
			return e, s == ""
		}},
		{name: "Instructions", isPlanned: true, run: func(nets []api.Net, columns int, p api.Plan, l api.Layout) (api.Errno, bool) {
			s, e := Instructions(p, l)
			return e, s == ""
		}},
	}
}

// TestErrorsOfArguments has the errors of the arguments of all functions, and their order.
func TestErrorsOfArguments(t *testing.T) {
	p := circle()
	nets, columns, err := Nets(p)
	expectError(t, "Nets", err, api.OK)
	l := api.Layout{Order: []int{2, 0, 1}, Tracks: []int{1, 63, 0}}
	wrongPlan := copyOf(p)
	wrongPlan.Units[1].Kind = "wheel"
	wrongNets := copyOfNets(nets)
	wrongNets[2].Columns = nil
	far := math.MaxInt
	for _, c := range calls() {
		check := func(what string, nets []api.Net, columns int, p api.Plan, l api.Layout, want api.Errno) {
			t.Helper()
			err, isZero := c.run(nets, columns, p, l)
			expectError(t, c.name+": "+what, err, want)
			if err != api.OK && !isZero {
				t.Errorf("%s: %s: a result beside the error %d", c.name, what, err)
			}
		}
		changed := func(what string, order, tracks []int, want api.Errno) {
			t.Helper()
			check(what, nets, columns, p, api.Layout{Order: order, Tracks: tracks}, want)
		}
		check("right arguments", nets, columns, p, l, api.OK)
		if c.isPlanned {
			check("the plan in front of the layout", nil, 0, wrongPlan, api.Layout{}, api.ErrKind)
			check("the nets in front of the layout", nil, 0, chain(96), api.Layout{}, api.ErrMany)
		} else {
			check("the nets in front of the order", wrongNets, columns, p, api.Layout{}, api.ErrEmpty)
			check("the columns in front of the order", nets, 98, p, api.Layout{}, api.ErrRange)
			check("the columns of the nets in front of the order", nets, 2, p, api.Layout{}, api.ErrUnknown)
			check("the number of nets in front of the order", make([]api.Net, 65), columns, p, api.Layout{}, api.ErrMany)
		}
		changed("no order", nil, l.Tracks, api.ErrShape)
		changed("a short order", []int{-1, 0}, l.Tracks, api.ErrShape)
		changed("a long order", []int{2, 0, 1, 3}, l.Tracks, api.ErrShape)
		changed("a column that is not there", []int{2, 3, 2}, nil, api.ErrUnknown)
		changed("a column below 0", []int{0, -1, 0}, nil, api.ErrUnknown)
		changed("a far column", []int{0, 1, far}, nil, api.ErrUnknown)
		changed("a column twice", []int{1, 1, 3}, nil, api.ErrTwice)
		changed("the last column twice", []int{1, 2, 1}, nil, api.ErrTwice)
		if !c.isOrder {
			changed("no tracks", l.Order, nil, api.ErrShape)
			changed("too few tracks", l.Order, []int{0, 64}, api.ErrShape)
			changed("too many tracks", l.Order, []int{0, 1, 2, 3}, api.ErrShape)
			changed("the track 64", l.Order, []int{0, 0, 64}, api.ErrRange)
			changed("the track -1", l.Order, []int{-1, 0, 0}, api.ErrRange)
			changed("a far track", l.Order, []int{far, 0, -far}, api.ErrRange)
			changed("a track twice", l.Order, []int{3, 0, 3}, api.ErrConflict)
			changed("the highest track twice", l.Order, []int{0, 63, 63}, api.ErrConflict)
		}
	}
}
