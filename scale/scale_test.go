package scale

import (
	"math"
	"math/big"
	"math/rand"
	"slices"
	"strconv"
	"strings"
	"testing"

	"integraph/api"
	"integraph/plan"
)

// digits returns a digit n times.
func digits(digit string, n int) api.Rat { return api.Rat(strings.Repeat(digit, n)) }

// expectError reports an error that is not the wanted one.
func expectError(t *testing.T, what string, got, want api.Errno) {
	t.Helper()
	if got != want {
		t.Errorf("%s: got the error %d, want %d", what, got, want)
	}
}

// expect reports a result, or an error, that is not the wanted one.
func expect[T comparable](t *testing.T, what string, got T, err api.Errno, want T, wantError api.Errno) {
	t.Helper()
	if got != want || err != wantError {
		t.Errorf("%s: got %v and the error %d, want %v and %d", what, got, err, want, wantError)
	}
}

// expectList reports a list, or an error, that is not the wanted one.
func expectList[T comparable](t *testing.T, what string, got []T, err api.Errno, want []T, wantError api.Errno) {
	t.Helper()
	if !slices.Equal(got, want) || err != wantError {
		t.Errorf("%s: got %v and the error %d, want %v and %d", what, got, err, want, wantError)
	}
}

// expectLists reports a list of lists, or an error, that is not the wanted one.
func expectLists[T comparable](t *testing.T, what string, got [][]T, err api.Errno, want [][]T, wantError api.Errno) {
	t.Helper()
	if !slices.EqualFunc(got, want, slices.Equal) || err != wantError {
		t.Errorf("%s: got %v and the error %d, want %v and %d", what, got, err, want, wantError)
	}
}

// expectSetup reports a set-up, or an error, that is not the wanted one.
func expectSetup(t *testing.T, what string, got api.Setup, err api.Errno, want api.Setup, wantError api.Errno) {
	t.Helper()
	expectList(t, what+": shafts", got.Shafts, err, want.Shafts, wantError)
	expectLists(t, what+": inputs", got.Inputs, err, want.Inputs, wantError)
}

// expectPlan reports a plan, or an error, that is not the wanted one.
func expectPlan(t *testing.T, what string, got api.Plan, err api.Errno, want api.Plan, wantError api.Errno) {
	t.Helper()
	if !samePlan(got, want) || err != wantError {
		t.Errorf("%s: got %v and the error %d, want %v and %d", what, got, err, want, wantError)
	}
}

func samePlan(p, q api.Plan) bool {
	return p.Shafts == q.Shafts && slices.Equal(p.Outputs, q.Outputs) && slices.EqualFunc(p.Units, q.Units, func(u, v api.Unit) bool {
		return u.Kind == v.Kind && u.Out == v.Out && u.Start == v.Start && slices.Equal(u.Feeds, v.Feeds) && slices.Equal(u.Curve, v.Curve)
	})
}

// copyOf returns a plan that shares no memory.
func copyOf(p api.Plan) api.Plan {
	p.Units, p.Outputs = slices.Clone(p.Units), slices.Clone(p.Outputs)
	for i, u := range p.Units {
		p.Units[i].Feeds, p.Units[i].Curve = slices.Clone(u.Feeds), slices.Clone(u.Curve)
	}
	return p
}

// copyOfSetup returns a set-up that shares no memory.
func copyOfSetup(s api.Setup) api.Setup {
	s.Shafts, s.Inputs = slices.Clone(s.Shafts), slices.Clone(s.Inputs)
	for i, l := range s.Inputs {
		s.Inputs[i] = slices.Clone(l)
	}
	return s
}

// bigOf returns the number of the library.
func bigOf(a api.Rat) *big.Rat {
	x, ok := new(big.Rat).SetString(string(a))
	if !ok {
		panic("no number: " + string(a))
	}
	return x
}

// ratOf returns the number with a value of the library.
func ratOf(x *big.Rat) api.Rat { return api.Rat(x.RatString()) }

// bigPower returns 2^e.
func bigPower(e int) *big.Rat {
	power := new(big.Int).Lsh(big.NewInt(1), uint(max(e, -e)))
	if e < 0 {
		return new(big.Rat).SetFrac(big.NewInt(1), power)
	}
	return new(big.Rat).SetInt(power)
}

// product returns a times some factors.
func product(a api.Rat, factors ...*big.Rat) api.Rat {
	x := bigOf(a)
	for _, f := range factors {
		x.Mul(x, f)
	}
	return ratOf(x)
}

// lineUp returns a plan with some outputs, and a unit for each line: its kind, its shaft, its start, its feeds with a
// star between shaft and ratio, and, behind a colon, its curve.
func lineUp(outputs []int, lines ...string) api.Plan {
	p := api.Plan{Shafts: len(lines) + 1, Outputs: outputs}
	for _, line := range lines {
		connected, curve, _ := strings.Cut(line, " : ")
		words := strings.Fields(connected)
		out, _ := strconv.Atoi(words[1])
		u := api.Unit{Kind: words[0], Out: out, Start: api.Rat(words[2])}
		for _, word := range words[3:] {
			shaft, ratio, _ := strings.Cut(word, "*")
			number, _ := strconv.Atoi(shaft)
			u.Feeds = append(u.Feeds, api.Feed{Shaft: number, Ratio: api.Rat(ratio)})
		}
		for _, word := range strings.Fields(curve) {
			u.Curve = append(u.Curve, api.Rat(word))
		}
		p.Units = append(p.Units, u)
	}
	return p
}

// spans returns the spans with these ends, in turn.
func spans(ends ...api.Rat) []api.Span {
	var list []api.Span
	for i := 0; i < len(ends); i += 2 {
		list = append(list, api.Span{Low: ends[i], High: ends[i+1]})
	}
	return list
}

// growth is the plan of the examples, with its ranges and its bench.
func growth() (api.Plan, []api.Span, api.Bench) {
	return lineUp([]int{1}, "integrator 1 1 1*1 0*1"), spans("0", "2", "1", "8"), api.Bench{Constant: 3, Disc: 5, Shaft: 10, Gear: 4}
}

// mixed is a plan with two tables around an adder, in which units stand before those that drive them.
func mixed() (api.Plan, []api.Span, api.Bench) {
	p := lineUp([]int{3, 1}, "table 4 9/4 3*1/2 : 0 0 1", "adder 3 3 1*-2/3 0*-5/2 1*1", "integrator 1 1 4*-2/5 0*3/7", "table 2 -7/2 0*4 : -7/2 2")
	return p, spans("0", "1", "-3", "2", "-5", "-7/2", "1/3", "4", "0", "3"), api.Bench{Constant: 2, Disc: 6, Shaft: 9, Gear: 5}
}

// mixedSetup is a set-up that fits mixed.
func mixedSetup() api.Setup {
	return api.Setup{Shafts: []int{8, 7, 6, 5, 3}, Inputs: [][]int{{8}, {5, 5, 5}, {4, 5}, {7}}}
}

// someRat returns a number with small numerator and denominator.
func someRat(r *rand.Rand, most int) api.Rat {
	return ratOf(big.NewRat(int64(r.Intn(2*most+1)-most), int64(1+r.Intn(most))))
}

// someRatio returns such a number that is not 0.
func someRatio(r *rand.Rand, most int) api.Rat {
	for {
		if a := someRat(r, most); a != "0" {
			return a
		}
	}
}

// somePlan returns a plan of some units with small numbers, whose shafts and units are in any order.
func somePlan(t *testing.T, r *rand.Rand, units int) api.Plan {
	t.Helper()
	number := []int{0} // of the shafts
	for _, i := range r.Perm(units) {
		number = append(number, i+1)
	}
	p := api.Plan{Shafts: units + 1, Outputs: []int{r.Intn(units + 1)}}
	starts := []*big.Rat{new(big.Rat)}
	for i := range units {
		u := api.Unit{Kind: []string{"integrator", "adder", "table"}[r.Intn(3)], Out: number[i+1], Start: someRat(r, 5)}
		from := []int{r.Intn(i + 1)} // only what stands before can drive a unit
		switch u.Kind {
		case "integrator":
			from = []int{r.Intn(units + 1), r.Intn(i + 1)} // but for the integrand
		case "adder":
			for range r.Intn(3) {
				from = append(from, r.Intn(i+1))
			}
		}
		for _, shaft := range from {
			u.Feeds = append(u.Feeds, api.Feed{Shaft: number[shaft], Ratio: someRatio(r, 9)})
		}
		if u.Kind == "table" {
			for range 1 + r.Intn(4) {
				u.Curve = append(u.Curve, someRat(r, 5))
			}
			at, power, sum := new(big.Rat).Mul(bigOf(u.Feeds[0].Ratio), starts[from[0]]), big.NewRat(1, 1), new(big.Rat)
			for _, c := range u.Curve {
				sum.Add(sum, new(big.Rat).Mul(bigOf(c), power))
				power.Mul(power, at)
			}
			u.Start = ratOf(sum)
		}
		starts = append(starts, bigOf(u.Start))
		p.Units = append(p.Units, u)
	}
	r.Shuffle(units, func(i, j int) { p.Units[i], p.Units[j] = p.Units[j], p.Units[i] })
	expectError(t, "CheckPlan of somePlan", plan.CheckPlan(p), api.OK)
	return p
}

// someRanges returns spans for the shafts of a plan, some of them with great or small numbers, or with 0 alone.
func someRanges(r *rand.Rand, shafts int) []api.Span {
	var list []api.Span
	for range shafts {
		by := bigPower(r.Intn(9) - 4)
		if r.Intn(12) == 0 {
			by = bigPower(r.Intn(120) - 60)
		}
		a, b := product(someRat(r, 20), by), product(someRat(r, 20), by)
		if bigOf(a).Cmp(bigOf(b)) > 0 {
			a, b = b, a
		}
		if r.Intn(15) == 0 {
			a, b = "0", "0"
		}
		list = append(list, api.Span{Low: a, High: b})
	}
	return list
}

// someBench returns a bench with small numbers.
func someBench(r *rand.Rand) api.Bench {
	return api.Bench{Constant: r.Intn(12), Disc: r.Intn(14), Shaft: 4 + r.Intn(14), Gear: r.Intn(12)}
}

func TestCheckBench(t *testing.T) {
	for _, n := range []int{0, 1, 39, 40, 41, -1, 1000, -40, math.MaxInt, math.MinInt} {
		want := api.OK
		if n < 0 || n > 40 {
			want = api.ErrRange
		}
		for _, b := range []api.Bench{{Constant: n}, {Disc: n}, {Shaft: n}, {Gear: n}, {Constant: n, Disc: n, Shaft: n, Gear: n}} {
			expectError(t, "CheckBench", CheckBench(b), want)
		}
	}
}

// call is a function with several arguments, those that it has, and its error for mixed and mixedSetup.
type call struct {
	name                 string
	ranges, bench, setup bool
	behind               api.Errno
	run                  func(p api.Plan, ranges []api.Span, b api.Bench, s api.Setup) (err api.Errno, isZero bool)
}

// calls returns the functions with several arguments.
func calls() []call {
	return []call{
		{name: "Limits", ranges: true, bench: true, run: func(p api.Plan, ranges []api.Span, b api.Bench, s api.Setup) (api.Errno, bool) {
			shafts, inputs, e := Limits(p, ranges, b)
			return e, shafts == nil && inputs == nil
		}},
		{name: "CheckSetup", ranges: true, bench: true, setup: true, run: func(p api.Plan, ranges []api.Span, b api.Bench, s api.Setup) (api.Errno, bool) {
			return CheckSetup(p, ranges, b, s), true
		}},
		{name: "Conditions", ranges: true, bench: true, run: func(p api.Plan, ranges []api.Span, b api.Bench, s api.Setup) (api.Errno, bool) {
			list, e := Conditions(p, ranges, b)
			return e, list == nil
		}},
		{name: "Best", ranges: true, bench: true, run: func(p api.Plan, ranges []api.Span, b api.Bench, s api.Setup) (api.Errno, bool) {
			best, e := Best(p, ranges, b)
			return e, best.Shafts == nil && best.Inputs == nil
		}},
		{name: "Refuse", ranges: true, bench: true, behind: api.ErrNone, run: func(p api.Plan, ranges []api.Span, b api.Bench, s api.Setup) (api.Errno, bool) {
			circle, e := Refuse(p, ranges, b)
			return e, circle == nil
		}},
		{name: "CheckRefused", ranges: true, bench: true, behind: api.ErrEmpty, run: func(p api.Plan, ranges []api.Span, b api.Bench, s api.Setup) (api.Errno, bool) {
			return CheckRefused(p, ranges, b, nil), true
		}},
		{name: "Ratios", setup: true, run: func(p api.Plan, ranges []api.Span, b api.Bench, s api.Setup) (api.Errno, bool) {
			ratios, e := Ratios(p, s)
			return e, ratios == nil
		}},
		{name: "Turns", ranges: true, setup: true, run: func(p api.Plan, ranges []api.Span, b api.Bench, s api.Setup) (api.Errno, bool) {
			turns, e := Turns(p, ranges, s)
			return e, turns == nil
		}},
		{name: "Slack", ranges: true, bench: true, setup: true, run: func(p api.Plan, ranges []api.Span, b api.Bench, s api.Setup) (api.Errno, bool) {
			slack, e := Slack(p, ranges, b, s)
			return e, slack == nil
		}},
		{name: "Geared", bench: true, setup: true, run: func(p api.Plan, ranges []api.Span, b api.Bench, s api.Setup) (api.Errno, bool) {
			geared, e := Geared(p, b, s)
			return e, samePlan(geared, api.Plan{})
		}},
	}
}

// TestErrorsOfArguments has the errors of the arguments of all functions, and their order.
func TestErrorsOfArguments(t *testing.T) {
	p, ranges, b := mixed()
	s := mixedSetup()
	wrongPlan := copyOf(p)
	wrongPlan.Units[1].Kind = "wheel"
	change := func(to api.Span) []api.Span {
		list := slices.Clone(ranges)
		list[3], list[4] = to, api.Span{}
		return list
	}
	wrongSetup := func(change func(s *api.Setup)) api.Setup {
		s := copyOfSetup(s)
		change(&s)
		return s
	}
	far := math.MaxInt
	for _, c := range calls() {
		check := func(what string, p api.Plan, ranges []api.Span, b api.Bench, s api.Setup, want api.Errno) {
			t.Helper()
			err, isZero := c.run(p, ranges, b, s)
			expectError(t, c.name+": "+what, err, want)
			if err != api.OK && !isZero {
				t.Errorf("%s: %s: a result beside the error %d", c.name, what, err)
			}
		}
		if check("right arguments", p, ranges, b, s, c.behind); c.ranges {
			check("the plan in front of the ranges", wrongPlan, nil, api.Bench{Gear: -1}, api.Setup{}, api.ErrKind)
			check("no ranges", p, nil, api.Bench{Gear: -1}, api.Setup{}, api.ErrShape)
			check("too few ranges", p, ranges[:4], api.Bench{Gear: -1}, api.Setup{}, api.ErrShape)
			check("too many ranges", p, append(change(api.Span{}), api.Span{}), api.Bench{Gear: -1}, api.Setup{}, api.ErrShape)
			check("a range whose ends are no numbers", p, change(api.Span{Low: "2", High: "x"}), api.Bench{Gear: -1}, api.Setup{}, api.ErrForm)
			check("a range in a wrong order", p, change(api.Span{Low: "2", High: "1"}), api.Bench{Gear: -1}, api.Setup{}, api.ErrOrder)
			check("a range with a long number", p, change(api.Span{Low: "2", High: digits("9", 601)}), api.Bench{Gear: -1}, api.Setup{}, api.ErrLarge)
		}
		if c.bench {
			check("the plan in front of the bench", wrongPlan, ranges, api.Bench{Gear: -1}, api.Setup{}, api.ErrKind)
			check("a wrong bench", p, ranges, api.Bench{Gear: -1}, api.Setup{}, api.ErrRange)
			check("another wrong bench", p, ranges, api.Bench{Disc: 41}, api.Setup{}, api.ErrRange)
		}
		if c.setup {
			check("the plan in front of the set-up", wrongPlan, ranges, b, api.Setup{}, api.ErrKind)
			check("no set-up", p, ranges, b, api.Setup{}, api.ErrShape)
			check("too few shafts", p, ranges, b, wrongSetup(func(s *api.Setup) { s.Shafts = s.Shafts[1:] }), api.ErrShape)
			check("too many shafts", p, ranges, b, wrongSetup(func(s *api.Setup) { s.Shafts = append(s.Shafts, 0) }), api.ErrShape)
			check("too few units", p, ranges, b, wrongSetup(func(s *api.Setup) { s.Inputs = s.Inputs[:3] }), api.ErrShape)
			check("too many units", p, ranges, b, wrongSetup(func(s *api.Setup) { s.Inputs = append(s.Inputs, nil) }), api.ErrShape)
			check("too few inputs", p, ranges, b, wrongSetup(func(s *api.Setup) { s.Inputs[3], s.Shafts[0] = nil, 41 }), api.ErrShape)
			check("too many inputs", p, ranges, b, wrongSetup(func(s *api.Setup) { s.Inputs[1], s.Inputs[0][0] = append(s.Inputs[1], 5), 41 }), api.ErrShape)
			for _, e := range []int{41, -41, far, -far - 1} {
				check("a shaft out of range", p, ranges, b, wrongSetup(func(s *api.Setup) { s.Shafts[4] = e }), api.ErrRange)
				check("an input out of range", p, ranges, b, wrongSetup(func(s *api.Setup) { s.Inputs[3][0] = e }), api.ErrRange)
				check("a middle input out of range", p, ranges, b, wrongSetup(func(s *api.Setup) { s.Inputs[1][1] = e }), api.ErrRange)
			}
		}
	}
}
