package plan

import (
	"math/big"
	"math/rand"
	"slices"
	"strconv"
	"strings"
	"testing"

	"integraph/api"
	"integraph/equation"
	"integraph/exact"
	"integraph/generate"
)

// digits returns a digit n times.
func digits(digit string, n int) string { return strings.Repeat(digit, n) }

// expectError reports an error that is not the wanted one.
func expectError(t *testing.T, what string, got, want api.Errno) {
	t.Helper()
	if got != want {
		t.Errorf("%s: got the error %d, want %d", what, got, want)
	}
}

// expect reports a result, or an error, that is not the wanted one.
func expect[T comparable](t *testing.T, what string, got T, err api.Errno, want T, wantError api.Errno) {
	t.Helper()
	if got != want || err != wantError {
		t.Errorf("%s: got %v and the error %d, want %v and %d", what, got, err, want, wantError)
	}
}

// expectList reports a list, or an error, that is not the wanted one.
func expectList[T comparable](t *testing.T, what string, got []T, err api.Errno, want []T, wantError api.Errno) {
	t.Helper()
	if !slices.Equal(got, want) || err != wantError {
		t.Errorf("%s: got %v and the error %d, want %v and %d", what, got, err, want, wantError)
	}
}

// expectPlan reports a plan, or an error, that is not the wanted one.
func expectPlan(t *testing.T, what string, got api.Plan, err api.Errno, want api.Plan, wantError api.Errno) {
	t.Helper()
	if !samePlan(got, want) || err != wantError {
		t.Errorf("%s: got %v and the error %d, want %v and %d", what, got, err, want, wantError)
	}
}

func samePlan(p, q api.Plan) bool {
	sameUnit := func(u, v api.Unit) bool {
		return u.Kind == v.Kind && u.Out == v.Out && u.Start == v.Start && slices.Equal(u.Feeds, v.Feeds) && slices.Equal(u.Curve, v.Curve)
	}
	return p.Shafts == q.Shafts && slices.EqualFunc(p.Units, q.Units, sameUnit) && slices.Equal(p.Outputs, q.Outputs)
}

func samePoly(p, q api.Poly) bool {
	return slices.EqualFunc(p, q, func(a, b api.Term) bool {
		return a.Factor == b.Factor && slices.Equal(a.Powers, b.Powers)
	})
}

// must returns a result that has no error.
func must[T any](t *testing.T, what string) func(result T, err api.Errno) T {
	return func(result T, err api.Errno) T {
		t.Helper()
		if err != api.OK {
			t.Fatalf("%s: the error %d", what, err)
		}
		return result
	}
}

// bigOf returns the number of the library.
func bigOf(a api.Rat) *big.Rat {
	x, ok := new(big.Rat).SetString(string(a))
	if !ok {
		panic("no number: " + string(a))
	}
	return x
}

// ratOf returns the number with a value of the library.
func ratOf(x *big.Rat) api.Rat { return api.Rat(x.RatString()) }

// someRat returns a small number.
func someRat(r *rand.Rand) api.Rat { return ratOf(big.NewRat(int64(r.Intn(9)-4), int64(1+r.Intn(3)))) }

// someRatio returns a small number that is not 0.
func someRatio(r *rand.Rand) api.Rat {
	for {
		if a := someRat(r); a != "0" {
			return a
		}
	}
}

// lineUp returns a plan with some outputs, and a unit for each line: its kind, its shaft, its start, its feeds with a
// star between shaft and ratio, and, behind a colon, its curve.
func lineUp(outputs []int, lines ...string) api.Plan {
	p := api.Plan{Shafts: len(lines) + 1, Outputs: outputs}
	for _, line := range lines {
		connected, curve, _ := strings.Cut(line, " : ")
		words := strings.Fields(connected)
		out, _ := strconv.Atoi(words[1])
		u := api.Unit{Kind: words[0], Out: out, Start: api.Rat(words[2])}
		for _, word := range words[3:] {
			shaft, ratio, _ := strings.Cut(word, "*")
			number, _ := strconv.Atoi(shaft)
			u.Feeds = append(u.Feeds, api.Feed{Shaft: number, Ratio: api.Rat(ratio)})
		}
		for _, word := range strings.Fields(curve) {
			u.Curve = append(u.Curve, api.Rat(word))
		}
		p.Units = append(p.Units, u)
	}
	return p
}

// circle is the plan of example 1.
func circle() api.Plan {
	return lineUp([]int{1, 2}, "integrator 1 1 2*1 0*1", "integrator 2 0 1*-1 0*1")
}

// mixed is a plan with all kinds of units, in which units stand before those with which they move, and a unit on which
// no output hangs.
func mixed() api.Plan {
	return lineUp([]int{5, 3, 5},
		"adder 3 8 5*2 1*-1", "integrator 1 0 3*1 4*1/2", "table 4 7/4 5*1/2 : 3/2 0 1/9", "integrator 5 3 5*1 0*2", "integrator 2 1 2*1 3*-1")
}

// sys returns the system with these lines: the name of a variable, a colon, its rate, a semicolon, its start.
func sys(t *testing.T, lines ...string) api.System {
	t.Helper()
	var rates, starts strings.Builder
	for _, line := range lines {
		name, rest, _ := strings.Cut(line, ": ")
		rate, start, _ := strings.Cut(rest, "; ")
		rates.WriteString(name + "' = " + rate + "\n")
		starts.WriteString("start " + name + " = " + start + "\n")
	}
	p, line, err := equation.ReadProblem("problem a\n" + rates.String() + starts.String() + "end 1\n")
	if err != api.OK {
		t.Fatalf("%q cannot be read: the error %d in line %d", lines, err, line)
	}
	return must[api.System](t, "System")(generate.System(p, 8))
}

// polys returns the polynomials with some texts in t and the variables of a system.
func polys(t *testing.T, s api.System, texts ...string) []api.Poly {
	t.Helper()
	var lines []string
	for _, name := range s.Names {
		lines = append(lines, name+": 0; 0")
	}
	for i, text := range texts {
		lines = append(lines, "q"+strconv.Itoa(i+1)+": "+text+"; 0")
	}
	var list []api.Poly
	for _, p := range sys(t, lines...).Rates[len(s.Names):] {
		for i := range p {
			p[i].Powers = p[i].Powers[:len(s.Names)+1]
		}
		list = append(list, p)
	}
	return list
}

// spread returns a system whose last start is not exact.
func spread(s api.System) api.System {
	s.Start = slices.Clone(s.Start)
	s.Start[len(s.Start)-1] = api.Span{Low: "-1", High: "1000"}
	return s
}

// somePlan returns a plan of some units with small numbers; its outputs are some of its shafts.
func somePlan(t *testing.T, r *rand.Rand, units int, kinds ...string) api.Plan {
	t.Helper()
	p := api.Plan{Shafts: units + 1}
	starts := []api.Rat{"0"}
	for i := range units {
		u := api.Unit{Kind: kinds[r.Intn(len(kinds))], Out: i + 1, Start: someRat(r)}
		before := func() api.Feed { return api.Feed{Shaft: r.Intn(i + 1), Ratio: someRatio(r)} }
		switch u.Kind {
		case integrator:
			u.Feeds = []api.Feed{{Shaft: r.Intn(units + 1), Ratio: someRatio(r)}, before()}
		case adder:
			for range 1 + r.Intn(3) {
				u.Feeds = append(u.Feeds, before())
			}
		case table:
			u.Feeds = []api.Feed{before()}
			for range 1 + r.Intn(3) {
				u.Curve = append(u.Curve, someRat(r))
			}
			u.Start = shown(u.Curve, u.Feeds[0], starts)
		}
		starts = append(starts, u.Start)
		p.Units = append(p.Units, u)
	}
	for range r.Intn(4) {
		p.Outputs = append(p.Outputs, r.Intn(p.Shafts))
	}
	p = shuffled(r, p)
	expectError(t, "CheckPlan of somePlan", CheckPlan(p), api.OK)
	return p
}

// shown returns the value of a curve at a feed of shafts with some positions.
func shown(curve []api.Rat, f api.Feed, positions []api.Rat) api.Rat {
	at := new(big.Rat).Mul(bigOf(f.Ratio), bigOf(positions[f.Shaft]))
	value := new(big.Rat)
	for _, c := range slices.Backward(curve) {
		value.Mul(value, at).Add(value, bigOf(c))
	}
	return ratOf(value)
}

// shuffled returns a plan with its shafts and units in another order.
func shuffled(r *rand.Rand, p api.Plan) api.Plan {
	to := append([]int{0}, r.Perm(p.Shafts-1)...)
	for i := range to[1:] {
		to[i+1]++
	}
	q := api.Plan{Shafts: p.Shafts}
	for _, i := range r.Perm(len(p.Units)) {
		u := p.Units[i]
		u.Out = to[u.Out]
		u.Feeds = slices.Clone(u.Feeds)
		for j := range u.Feeds {
			u.Feeds[j].Shaft = to[u.Feeds[j].Shaft]
		}
		q.Units = append(q.Units, u)
	}
	for _, shaft := range p.Outputs {
		q.Outputs = append(q.Outputs, to[shaft])
	}
	return q
}

// someSystem returns a system of small polynomials with at most some terms in each rate, and exact starts.
func someSystem(t *testing.T, r *rand.Rand, vars, terms, most int) api.System {
	t.Helper()
	var s api.System
	for i := range vars {
		list := make([]api.Term, r.Intn(terms+1))
		for j := range list {
			list[j] = api.Term{Factor: someRat(r), Powers: make([]int, vars+1)}
			for range r.Intn(most + 1) {
				list[j].Powers[r.Intn(vars+1)]++
			}
		}
		start := someRat(r)
		s.Names = append(s.Names, "x"+strconv.Itoa(i+1))
		s.Rates = append(s.Rates, must[api.Poly](t, "Normal")(exact.Normal(list, vars)))
		s.Start = append(s.Start, api.Span{Low: start, High: start})
	}
	return s
}

// ring returns a system of as many variables as are wanted, each of which is the rate of the one before it.
func ring(n int) api.System {
	var s api.System
	for i := range n {
		powers := make([]int, n+1)
		powers[1+(i+1)%n] = 1
		start := api.Rat(strconv.Itoa(i))
		s.Names = append(s.Names, "x"+strconv.Itoa(i+1))
		s.Rates = append(s.Rates, api.Poly{{Factor: "1", Powers: powers}})
		s.Start = append(s.Start, api.Span{Low: start, High: start})
	}
	return s
}
