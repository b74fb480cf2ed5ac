package enclose

import (
	"math/big"
	"math/rand"
	"testing"

	"integraph/api"
	"integraph/equation"
	"integraph/generate"
)

// The tests of this file are those of P8.7, and of P8.

// contains reports a number that is not in a span.
func contains(t *testing.T, what string, s api.Span, a *big.Rat) {
	t.Helper()
	if !point(a).within(wideOf(s)) {
		t.Errorf("%s: %s is not in %v", what, a.RatString(), s)
	}
}

// known is a system with the solutions of its first variable, for each start in its span.
type known struct {
	what  string
	s     api.System
	until *big.Rat
	value func(start, t *big.Rat) *big.Rat
}

func knowns() []known {
	one := big.NewRat(1, 1)
	mul := func(a, b *big.Rat) *big.Rat { return new(big.Rat).Mul(a, b) }
	over := func(a, b *big.Rat) *big.Rat { return new(big.Rat).Quo(a, b) }
	plus := func(a, b *big.Rat) *big.Rat { return new(big.Rat).Add(a, b) }
	return []known{
		{"x' = x^2", systemOf(box("1", "1"), api.Poly{term("1", 0, 2)}), big.NewRat(1, 2), func(x, t *big.Rat) *big.Rat {
			return over(x, plus(one, mul(x, new(big.Rat).Neg(t)))) // x / (1 - x t)
		}},
		{"x' = -x^2, from a span", systemOf(box("1", "6/5"), api.Poly{term("-1", 0, 2)}), big.NewRat(1, 1), func(x, t *big.Rat) *big.Rat {
			return over(x, plus(one, mul(x, t))) // x / (1 + x t)
		}},
		{"x' = -2 t x^2", systemOf(box("1", "1"), api.Poly{term("-2", 1, 2)}), big.NewRat(1, 1), func(x, t *big.Rat) *big.Rat {
			return over(x, plus(one, mul(x, mul(t, t)))) // x / (1 + x t^2)
		}},
		{"x' = 3 t^2 - 1, from a span", systemOf(box("-1", "2"), api.Poly{term("3", 2, 0), term("-1", 0, 0)}), big.NewRat(3, 1), func(x, t *big.Rat) *big.Rat {
			return plus(x, plus(mul(t, mul(t, t)), new(big.Rat).Neg(t)))
		}},
		{"a fall", systemOf(box("0", "10", "3", "3"), api.Poly{term("1", 0, 0, 1)}, api.Poly{term("-10", 0, 0, 0)}), big.NewRat(2, 1), func(x, t *big.Rat) *big.Rat {
			return plus(x, plus(mul(t, big.NewRat(3, 1)), mul(mul(t, t), big.NewRat(-5, 1))))
		}},
	}
}

func TestTubesContainTheSolutions(t *testing.T) {
	for _, k := range knowns() {
		for _, order := range []int{1, 2, 5, 16} {
			for _, bits := range []int{12, 64} {
				ends := must[[]api.Rat](t)(Grid(ratOf(k.until), 24))
				tube := must[[]api.Box](t)(Tube(k.s, ends, order, bits))
				expectError(t, "CheckTube: "+k.what, CheckTube(k.s, tube, order), api.OK)
				low, high := bigOf(k.s.Start[0].Low), bigOf(k.s.Start[0].High)
				hull := must[[]api.Span](t)(Range(k.s, tube))
				for i := range 4*24 + 1 {
					at := new(big.Rat).Mul(k.until, big.NewRat(int64(i), 4*24))
					box := must[[]api.Span](t)(At(k.s, tube, ratOf(at)))
					for _, start := range []*big.Rat{low, high, hullOf(low, high).middle()} {
						contains(t, k.what, box[0], k.value(start, at))
						contains(t, k.what, hull[0], k.value(start, at))
					}
				}
			}
		}
	}
}

// middle returns the number in the middle of a span.
func (a wide) middle() *big.Rat {
	sum := new(big.Rat).Add(a[0], a[1])
	return sum.Mul(sum, big.NewRat(1, 2))
}

// TestTubesOfFunctions has tubes of problems whose solutions are functions, with spans that contain their values.
func TestTubesOfFunctions(t *testing.T) {
	for _, row := range []struct {
		problem  string
		function string
		variable int
		most     string // how wide the last box is at most
	}{
		{"problem grow\ny' = y\nstart y = 1\nend 2\n", "exp", 0, "1/1000000000"}, {"problem swing\ny'' = -y\nstart y = 0\nstart y' = 1\nend 2\n", "sin", 0, "1/1000000000"}, {"problem swing\ny'' = -y\nstart y = 0\nstart y' = 1\nend 2\n", "cos", 1, "1/1000000000"},
		{"problem steep\ny' = 1 + y^2\nstart y = 0\nend 1\n", "tan", 0, "1/1000000000"}, {"problem wave\ny' = cos(t)\nstart y = 0\nend 2\n", "sin", 0, "1/1000000000"},
	} {
		problem, _, err := equation.ReadProblem(row.problem)
		expectError(t, "ReadProblem", err, api.OK)
		s := must[api.System](t)(generate.System(problem, 64))
		tube := must[[]api.Box](t)(Tube(s, must[[]api.Rat](t)(Grid(problem.End, 40)), 12, 64))
		for _, b := range tube {
			// both spans contain the value, and that of Enclose is narrow
			value := wideOf(must[api.Span](t)(generate.Enclose(row.function, b.End, 60)))
			last := wideOf(b.Last[row.variable])
			if value[1].Cmp(last[0]) < 0 || last[1].Cmp(value[0]) < 0 {
				t.Errorf("%s of %s is in %v, but not in %v", row.function, b.End, value.span(), last.span())
			}
		}
		widths := must[[]api.Rat](t)(Widths(s, tube))
		if last := widths[len(widths)-1]; bigOf(last).Cmp(bigOf(api.Rat(row.most))) > 0 {
			t.Errorf("the tube of %s is %s wide at its end", row.function, last)
		}
	}
}

// TestTubes has what holds for all tubes: they are accepted, those for the same ends meet, and first integrals are kept.
func TestTubes(t *testing.T) {
	r := rand.New(rand.NewSource(7))
	met, kept := 0, 0
	for range 500 {
		s, ends, order := someSystem(t, r), someEnds(r), 1+r.Intn(4)
		if r.Intn(2) == 0 {
			s = circling(r)
		}
		tube, err := Tube(s, ends, order, 4+r.Intn(20))
		if err != api.OK {
			expectError(t, "Tube", err, api.ErrStep)
			continue
		}
		expectError(t, "CheckTube", CheckTube(s, tube, order), api.OK)
		if other, err := Tube(s, ends, 1+r.Intn(4), 4+r.Intn(20)); err == api.OK {
			both, err := Meet(s, tube, other)
			expectError(t, "Meet of two tubes", err, api.OK)
			met += len(both)
		}
		integrals, err := generate.Integrals(s, 2)
		expectError(t, "Integrals", err, api.OK)
		for _, p := range integrals {
			keeps, err := Keeps(s, p, tube)
			expect(t, "Keeps", keeps, err, true, api.OK)
			kept++
		}
	}
	if met < 300 || kept < 150 {
		t.Errorf("only %d boxes meet, and only %d first integrals are kept", met, kept)
	}
}

// circling returns a system with a first integral.
func circling(r *rand.Rand) api.System {
	return []api.System{
		systemOf(someBox(r, 2), api.Poly{term("1", 0, 0, 1)}, api.Poly{term("-1", 0, 1, 0)}),
		systemOf(someBox(r, 2), api.Poly{term("1", 0, 1, 1)}, api.Poly{term("-1", 0, 1, 1)}),
		systemOf(someBox(r, 2), api.Poly{term("1/2", 1, 0, 0), term("1/3", 0, 0, 1)}, api.Poly{term("-3/2", 1, 0, 0), term("-1", 0, 0, 1)}),
	}[r.Intn(3)]
}

// partOf returns a span within another one.
func partOf(r *rand.Rand, s api.Span) api.Span {
	a := wideOf(s)
	shares := []int64{int64(r.Intn(7)), int64(r.Intn(7))}
	at := func(share int64) *big.Rat {
		move := new(big.Rat).Mul(a.width(), big.NewRat(share, 6))
		return move.Add(move, a[0])
	}
	return span(ratOf(at(min(shares[0], shares[1]))), ratOf(at(max(shares[0], shares[1]))))
}

func partsOf(r *rand.Rand, box []api.Span) []api.Span {
	var parts []api.Span
	for _, s := range box {
		parts = append(parts, partOf(r, s))
	}
	return parts
}

// TestPartsOfBoxes has series and Taylor boxes of boxes within boxes.
func TestPartsOfBoxes(t *testing.T) {
	r := rand.New(rand.NewSource(8))
	for range 300 {
		s, at, order := someSystem(t, r), someSpan(r), 1+r.Intn(4)
		n := len(s.Names)
		start, whole := someBox(r, n), someBox(r, n)
		part, wholePart := partsOf(r, start), partsOf(r, whole)
		narrow, wider := must[[][]api.Span](t)(Series(s, partOf(r, at), part, order)), must[[][]api.Span](t)(Series(s, at, start, order))
		for i := range n {
			if !allWithin(widesOf(narrow[i]), widesOf(wider[i])) {
				t.Errorf("the series %v of a part is not within %v", narrow[i], wider[i])
			}
		}
		inner := must[[]api.Span](t)(Taylor(s, "1/3", part, "1/2", wholePart, order))
		outer := must[[]api.Span](t)(Taylor(s, "1/3", start, "1/2", whole, order))
		if !allWithin(widesOf(inner), widesOf(outer)) {
			t.Errorf("the Taylor box %v of a part is not within %v", inner, outer)
		}
	}
}

// TestGoodBoxes has trial boxes, and what good ones lead to, which are good, too.
func TestGoodBoxes(t *testing.T) {
	r := rand.New(rand.NewSource(9))
	good := 0
	for range 500 {
		s := someSystem(t, r)
		start := someBox(r, len(s.Names))
		from, to := big.NewRat(1, 3), big.NewRat(int64(r.Intn(4)+14), 41)
		isGood := func(whole []api.Span) bool {
			return must[bool](t)(IsGood(s, ratOf(from), start, ratOf(to), whole))
		}
		trial, err := Picard(s, ratOf(from), start, ratOf(to), r.Intn(12))
		if err == api.OK && !isGood(trial) {
			t.Errorf("the trial box %v of %v is not good", trial, s)
		}
		whole := spansOf(outwards(widesOf(start), 0))
		if err == api.OK && r.Intn(2) == 0 {
			whole = trial
		}
		for isGood(whole) {
			next := spansOf(movedOf(s, from, to, widesOf(start), widesOf(whole)))
			if !isGood(next) {
				t.Errorf("the box %v of %v leads to %v, which is not good", whole, s, next)
			}
			good++
			whole = next
			if r.Intn(2) == 0 {
				break
			}
		}
	}
	if good < 300 {
		t.Errorf("only %d boxes are good", good)
	}
}
