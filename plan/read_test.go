package plan

import (
	"math/big"
	"math/rand"
	"slices"
	"strconv"
	"strings"
	"testing"

	"integraph/api"
	"integraph/exact"
	"integraph/generate"
)

// The tests of this file are those of P4.2.

// expectReading reports a system and polynomials of shafts, or an error, that are not those of the texts.
func expectReading(t *testing.T, what string, p api.Plan, want api.System, shafts ...string) {
	t.Helper()
	s, got, err := Read(p)
	expectError(t, what, err, api.OK)
	if !slices.Equal(s.Names, want.Names) || !slices.EqualFunc(s.Rates, want.Rates, samePoly) || !slices.Equal(s.Start, want.Start) {
		t.Errorf("%s: got the system %v, want %v", what, s, want)
	}
	if list := polys(t, want, shafts...); !slices.EqualFunc(got, list, samePoly) {
		t.Errorf("%s: got the shafts %v, want %v", what, got, list)
	}
}

func TestRead(t *testing.T) {
	expectReading(t, "the circle", circle(), sys(t, "z1: z2; 1", "z2: -z1; 0"), "t", "z1", "z2")
	expectReading(t, "growth", lineUp([]int{1}, "integrator 1 1 1*1 0*1"), sys(t, "z1: z1; 1"), "t", "z1")
	expectReading(t, "squares", lineUp(nil, "integrator 1 1 2*1 0*1", "integrator 2 1 1*2 1*1"), sys(t, "z1: z2; 1", "z2: 2 * z1 * z2; 1"), "t", "z1", "z2")
	expectReading(t, "a table as the integrand", lineUp(nil, "table 1 0 0*3 : 0 0 1", "integrator 2 0 1*1 0*1"), sys(t, "z1: 9 * t^2; 0"), "t", "9 * t^2", "z1")
	expectReading(t, "a table as the variable", lineUp(nil, "table 1 0 0*3 : 0 0 1", "integrator 2 0 0*1 1*1"), sys(t, "z1: 18 * t^2; 0"), "t", "9 * t^2", "z1")
	mixedSystem := sys(t, "z1: (2 * z2 - z1 + 2) * z2^2 * (1/18); 0", "z2: 2 * z2; 3", "z3: -z3 * (4 * z2 - (2 * z2 - z1 + 2) * z2^2 * (1/18)); 1")
	expectReading(t, "the mixed plan", mixed(), mixedSystem, "t", "z1", "z3", "2 * z2 - z1 + 2", "z2^2 * (1/36) + 3/2", "z2")
	expectReading(t, "a constant adder", lineUp(nil, "adder 1 5/2 0*1 0*-1", "integrator 2 0 0*1 1*3", "integrator 3 1 1*2 0*-1/2"), sys(t, "z1: 0; 0", "z2: -5/2; 1"), "t", "5/2", "z1", "z2")
	expectReading(t, "a curve of a level shaft", lineUp(nil, "adder 1 2 0*1 0*-1", "table 2 13 1*3 : 1 2 0", "table 3 7 2*1 : 7", "integrator 4 0 0*1 0*1"), sys(t, "z1: t; 0"), "t", "2", "13", "7", "z1")
}

func TestReadWithoutIntegrators(t *testing.T) {
	for _, row := range []struct {
		p    api.Plan
		want []api.Poly
	}{
		{api.Plan{Shafts: 1}, []api.Poly{{{Factor: "1", Powers: []int{1}}}}},
		{lineUp(nil, "adder 1 1/3 0*2 2*1", "table 2 1 0*1/2 : 1 0 1"), []api.Poly{{{Factor: "1", Powers: []int{1}}}, {{Factor: "1/4", Powers: []int{2}}, {Factor: "2", Powers: []int{1}}, {Factor: "1/3", Powers: []int{0}}}, {{Factor: "1/4", Powers: []int{2}}, {Factor: "1", Powers: []int{0}}}}},
	} {
		s, shafts, err := Read(row.p)
		expectError(t, "Read", err, api.OK)
		if len(s.Names)+len(s.Rates)+len(s.Start) > 0 || !slices.EqualFunc(shafts, row.want, samePoly) {
			t.Errorf("Read: got %v and %v, want %v", s, shafts, row.want)
		}
	}
}

// motion is a number that moves: its position and its rate.
type motion struct{ at, rate *big.Rat }

func still() motion { return motion{new(big.Rat), new(big.Rat)} }

func (m motion) plus(n motion, factor *big.Rat) motion {
	sum := still()
	sum.at.Add(m.at, sum.at.Mul(n.at, factor))
	sum.rate.Add(m.rate, sum.rate.Mul(n.rate, factor))
	return sum
}

func (m motion) times(n motion) motion {
	product := still()
	product.at.Mul(m.at, n.at)
	product.rate.Mul(m.rate, n.at)
	product.rate.Add(product.rate, new(big.Rat).Mul(m.at, n.rate))
	return product
}

// mover moves the shafts of a plan, unit by unit, from positions of t and of the shafts of integrators.
type mover struct {
	p         api.Plan
	positions map[int]*big.Rat
	known     map[int]motion
}

func (m mover) shaft(t *testing.T, shaft int) motion {
	if result, ok := m.known[shaft]; ok {
		return result
	}
	one, result := big.NewRat(1, 1), still()
	value := func(f api.Feed) motion { return still().plus(m.shaft(t, f.Shaft), bigOf(f.Ratio)) }
	i := slices.IndexFunc(m.p.Units, func(u api.Unit) bool { return u.Out == shaft })
	switch {
	case shaft == 0:
		result = motion{m.positions[0], one}
	case m.p.Units[i].Kind == integrator:
		over := value(m.p.Units[i].Feeds[1])
		result = motion{m.positions[shaft], new(big.Rat).Mul(m.position(t, m.p.Units[i].Feeds[0]), over.rate)}
	case m.p.Units[i].Kind == adder:
		u, starts := m.p.Units[i], must[[]api.Rat](t, "Starts")(Starts(m.p))
		result.at = bigOf(u.Start)
		for _, f := range u.Feeds {
			result = result.plus(value(f), one)
			result.at = new(big.Rat).Sub(result.at, new(big.Rat).Mul(bigOf(f.Ratio), bigOf(starts[f.Shaft])))
		}
	default:
		at := value(m.p.Units[i].Feeds[0])
		for _, c := range slices.Backward(m.p.Units[i].Curve) {
			result = result.times(at).plus(motion{bigOf(c), new(big.Rat)}, one)
		}
	}
	m.known[shaft] = result
	return result
}

// position returns the value of a feed, whose rate may be made of what is being moved.
func (m mover) position(t *testing.T, f api.Feed) *big.Rat {
	fixed := mover{m.p, m.positions, map[int]motion{}}
	for shaft, at := range m.positions {
		fixed.known[shaft] = motion{at, new(big.Rat)}
	}
	return new(big.Rat).Mul(bigOf(f.Ratio), fixed.shaft(t, f.Shaft).at)
}

// TestReadMoves compares polynomials with the motions of the units at some points.
func TestReadMoves(t *testing.T) {
	r := rand.New(rand.NewSource(4))
	read := 0
	for range 400 {
		p := somePlan(t, r, 1+r.Intn(8), integrator, adder, table)
		s, shafts, err := Read(p)
		if err != api.OK {
			continue
		}
		read++
		point := []api.Rat{someRat(r)}
		m := mover{p, map[int]*big.Rat{0: bigOf(point[0])}, map[int]motion{}}
		var driven []int
		for _, u := range p.Units {
			if u.Kind == integrator {
				driven = append(driven, u.Out)
				point = append(point, someRat(r))
				m.positions[u.Out] = bigOf(point[len(point)-1])
				if s.Start[len(driven)-1] != (api.Span{Low: u.Start, High: u.Start}) || s.Names[len(driven)-1] != "z"+strconv.Itoa(len(driven)) {
					t.Errorf("the variable %d is %v from %v", len(driven), s.Names, s.Start)
				}
			}
		}
		for shaft, q := range shafts {
			value, err := exact.EvalPoly(q, point)
			expect(t, "the position of a shaft", value, err, ratOf(m.shaft(t, shaft).at), api.OK)
		}
		for i, shaft := range driven {
			value, err := exact.EvalPoly(s.Rates[i], point)
			expect(t, "the rate of an integrator", value, err, ratOf(m.shaft(t, shaft).rate), api.OK)
		}
		if len(driven) > 0 {
			expectError(t, "CheckSystem of a result", generate.CheckSystem(s), api.OK)
		}
	}
	if read < 350 {
		t.Errorf("only %d plans were read", read)
	}
}

// powers returns the line of a table that shows the power n of a shaft which begins at 0.
func powers(out, of, n int) string {
	return "table " + strconv.Itoa(out) + " 0 " + strconv.Itoa(of) + "*1 :" + strings.Repeat(" 0", n) + " 1"
}

// wide returns the lines of some integrators that turn nothing, and of adders that add t and their shafts; the last one
// drives the shaft of the sum of all.
func wide(integrators int) []string {
	var lines []string
	for i := range integrators {
		lines = append(lines, "integrator "+strconv.Itoa(i+1)+" 0 0*1 0*1")
	}
	sum := "0*1"
	for i := 0; i < integrators; i += 7 {
		line := "adder " + strconv.Itoa(len(lines)+1) + " 0 " + sum
		for j := i; j < min(i+7, integrators); j++ {
			line += " " + strconv.Itoa(j+1) + "*1"
		}
		lines = append(lines, line)
		sum = strconv.Itoa(len(lines)) + "*1"
	}
	return lines
}

// with returns a plan of some lines and further ones.
func with(lines []string, further ...string) api.Plan {
	return lineUp(nil, slices.Concat(lines, further)...)
}

func TestReadErrors(t *testing.T) {
	long := digits("9", 301)
	sum := wide(10) // the shaft 12 is the sum of t and 10 variables: its square has 66 terms
	var chain []string
	for i := range 96 {
		chain = append(chain, powers(i+1, i, 12))
	}
	great := wide(23) // the shaft 27 is the sum of t and 23 variables
	rates := []string{"integrator 1 0 0*1 0*1"}
	for i := range 12 {
		rates = append(rates, "table "+strconv.Itoa(2*i+2)+" 0 "+strconv.Itoa(2*i+1)+"*1 : 0 0 0 0 0 0 0 0 0 0 0 0 1", "integrator "+strconv.Itoa(2*i+3)+" 0 "+strconv.Itoa(2*i+2)+"*1 "+strconv.Itoa(2*i+2)+"*1")
	}
	for _, row := range []struct {
		what string
		p    api.Plan
		want api.Errno
	}{
		{"no plan", api.Plan{}, api.ErrRange}, {"a loop", lineUp(nil, "adder 1 0 1*1"), api.ErrLoop},
		{"the power 12", lineUp(nil, powers(1, 0, 12)), api.OK}, {"the power 14", lineUp(nil, powers(1, 0, 2), powers(2, 1, 7)), api.ErrLarge}, {"the power 144", lineUp(nil, powers(1, 0, 12), powers(2, 1, 12)), api.ErrLarge}, {"a curve that ends with 0", lineUp(nil, powers(1, 0, 12), "table 2 0 1*1 : 0 1 0 0 0"), api.OK}, {"powers beyond all numbers", lineUp(nil, chain...), api.ErrLarge},
		{"66 terms", with(sum, "table 13 0 12*1 : 0 0 1"), api.ErrMany}, {"55 terms", with(wide(9), "table 12 0 11*1 : 0 0 1"), api.OK}, {"1.25 * 10^9 terms", with(great, "table 28 0 27*1 : 0 0 0 0 0 0 0 0 0 0 0 0 1"), api.ErrMany}, {"powers 16 of them", with(great, "table 28 0 27*1 : 0 0 0 0 1", "table 29 0 28*1 : 0 0 0 0 1"), api.ErrMany}, {"many terms that are times 0", with(great, "table 28 0 27*1 : 0 1 0 0 0 0 0 0 0 0 0 0 0"), api.OK},
		{"a long factor", lineUp(nil, "adder 1 0 0*"+long, "adder 2 0 1*"+long), api.ErrLarge}, {"a factor below", lineUp(nil, "adder 1 0 0*1/"+long, "adder 2 0 1*1/"+long), api.ErrLarge}, {"a long factor that is cancelled", lineUp(nil, "adder 1 0 0*"+long, "adder 2 0 1*1/"+long), api.OK}, {"a factor of 600 digits", lineUp(nil, "adder 1 0 0*"+digits("9", 300), "adder 2 0 1*"+digits("9", 300)), api.OK}, {"a long constant", lineUp(nil, "integrator 1 "+long+" 0*1 0*1", "adder 2 0 1*"+long), api.ErrLarge},
		{"terms before a power", with(sum, "table 13 0 12*1 : 0 0 1", powers(14, 0, 12), powers(15, 14, 2)), api.ErrMany}, {"a power before terms", with(sum, powers(13, 0, 12), powers(14, 13, 2), "table 15 0 12*1 : 0 0 1"), api.ErrLarge}, {"the order of shafts, not of units", with(sum, powers(14, 0, 12), powers(15, 14, 2), "table 13 0 12*1 : 0 0 1"), api.ErrMany},
		{"what cancels, before it", with(sum, "adder 13 0 14*1 14*-1 0*3", "table 14 0 12*1 : 0 0 1", powers(15, 0, 12), powers(16, 15, 2)), api.ErrMany}, {"a part of what is too large, before it", with(sum, "adder 13 0 14*1 15*-1 16*1", powers(14, 17, 12), powers(15, 17, 12), "table 16 0 12*1 : 0 0 1", powers(17, 0, 12)), api.ErrMany}, {"many terms that are cancelled", with(great, "adder 28 0 29*1 29*1 29*-2 0*1", "table 29 0 27*1 : 0 0 0 0 0 0 0 0 0 0 0 0 1"), api.ErrMany}, {"many terms of two tables that are cancelled", with(great, "adder 28 0 29*1 30*-1/4096 0*1", "table 29 0 27*1 : 0 0 0 0 0 0 0 0 0 0 0 0 1", "table 30 0 27*2 : 0 0 0 0 0 0 0 0 0 0 0 0 1"), api.ErrMany},
		{"powers beyond all numbers that are cancelled, before terms", with(sum, "adder 13 0 15*1 16*-1", "table 14 0 12*1 : 0 0 1", powers(15, 18, 12), powers(16, 18, 12), powers(17, 0, 12), powers(18, 17, 12)), api.ErrMany}, {"different powers beyond all numbers, before terms", with(sum, "adder 13 0 15*1 16*-1", "table 14 0 12*1 : 0 0 1", powers(15, 18, 12), powers(16, 18, 11), powers(17, 0, 12), powers(18, 17, 12)), api.ErrLarge}, {"powers of different shafts beyond all numbers, before terms", with(sum, "adder 13 0 15*1 16*-1", "table 14 0 12*1 : 0 0 1", powers(15, 18, 12), powers(16, 19, 12), powers(17, 0, 12), powers(18, 17, 12), powers(19, 17, 11)), api.ErrLarge},
		{"a level curve of what is too large", with(sum, "table 13 7 15*1 : 7 0", "table 14 0 12*1 : 0 0 1", powers(15, 14, 12)), api.ErrMany},
		{"a rate with the power 24", lineUp(nil, "table 1 0 0*1 : 0 0 0 0 0 0 0 0 0 0 0 0 1", "integrator 2 0 1*1 1*1"), api.ErrLarge}, {"a rate with the power 12", lineUp(nil, "table 1 0 0*1 : 0 0 0 0 0 0 0 1", "table 2 0 0*1 : 0 0 0 0 0 0 1", "integrator 3 0 1*1 2*1"), api.OK}, {"a rate with 66 terms", with(sum, "integrator 13 0 12*1 12*1"), api.OK}, {"rates beyond all powers", lineUp(nil, rates...), api.ErrLarge},
		{"a rate with many terms", with(sum, "table 13 0 12*1 : 0 1", "integrator 14 0 12*1 15*1", "integrator 15 0 12*1 0*1"), api.ErrMany}, {"a rate with a long factor", lineUp(nil, "integrator 1 0 0*"+long+" 0*"+long), api.ErrLarge}, {"the order of rates", with(sum, "integrator 13 0 15*1 15*1", "integrator 14 0 12*1 16*1", "table 15 0 0*1 : 0 0 0 0 0 0 0 0 0 0 0 0 1", "integrator 16 0 12*1 0*1"), api.ErrLarge}, {"the other order of rates", with(sum, "integrator 14 0 12*1 16*1", "integrator 13 0 15*1 15*1", "table 15 0 0*1 : 0 0 0 0 0 0 0 0 0 0 0 0 1", "integrator 16 0 12*1 0*1"), api.ErrMany},
		{"a shaft before a rate", with(sum, "integrator 14 0 13*1 13*1", powers(13, 0, 12), "table 15 0 12*1 : 0 0 1"), api.ErrMany}, {"a rate that a loop of integrands makes", circle(), api.OK},
	} {
		s, shafts, err := Read(row.p)
		expectError(t, "Read: "+row.what, err, row.want)
		if err != api.OK && (s.Names != nil || s.Rates != nil || s.Start != nil || shafts != nil) {
			t.Errorf("Read: %s: a result beside the error %d", row.what, err)
		}
	}
}
