package plan

import (
	"math/rand"
	"slices"
	"strconv"
	"testing"

	"integraph/api"
	"integraph/exact"
)

// The tests of this file are those of P4.3.

// swing is the system of the circle.
func swing(t *testing.T) api.System { return sys(t, "x: v; 1", "v: -x; 0") }

func TestVerify(t *testing.T) {
	square := sys(t, "y: y^2; 1")
	squares := lineUp([]int{1}, "integrator 1 1 2*1 0*1", "integrator 2 1 1*2 1*1")
	line := sys(t, "x: 3; 2")
	for _, row := range []struct {
		what   string
		p      api.Plan
		s      api.System
		wanted []int
		proof  []string
		want   api.Errno
	}{
		{"the circle", circle(), swing(t), []int{0, 1}, []string{"x", "v"}, api.OK}, {"the circle the other way", circle(), swing(t), []int{0, 1}, []string{"v", "x"}, api.ErrProof}, {"the circle with other outputs", circle(), swing(t), []int{1, 0}, []string{"x", "v"}, api.ErrProof}, {"the circle with the opposite", circle(), swing(t), []int{0, 1}, []string{"-x", "-v"}, api.ErrProof},
		{"a square", squares, square, []int{0}, []string{"y", "y^2"}, api.OK}, {"a square from another power", squares, square, []int{0}, []string{"y", "y^3"}, api.ErrProof}, {"a square from nothing", squares, square, []int{0}, []string{"y", "y"}, api.ErrProof},
		{"a square from a table", lineUp([]int{1}, "integrator 1 1 2*1 0*1", "table 2 1 1*1 : 0 0 1"), square, []int{0}, []string{"y"}, api.OK},
		{"t as a proof", lineUp([]int{1}, "integrator 1 2 2*3 0*1", "adder 2 1 0*1 0*-1"), line, []int{0}, []string{"x"}, api.OK}, {"what t is", lineUp([]int{1}, "integrator 1 2 2*3 0*1", "adder 2 1 0*1 0*-1"), line, []int{0}, []string{"3 * t + 2"}, api.ErrProof}, {"another integrator of t", lineUp([]int{2}, "integrator 1 2 3*3 0*1", "integrator 2 2 3*3 0*1", "adder 3 1 0*1 0*-1"), line, []int{0}, []string{"3 * t + 2", "x"}, api.OK},
		{"the integrator's other variable", lineUp([]int{1}, "integrator 1 1 1*2 0*1/2"), sys(t, "y: y; 1"), []int{0}, []string{"y"}, api.OK}, {"twice the rate", lineUp([]int{1}, "integrator 1 1 1*2 0*1"), sys(t, "y: y; 1"), []int{0}, []string{"y"}, api.ErrProof},
		{"another start of an integrator", lineUp([]int{1}, "integrator 1 2 1*1 0*1"), sys(t, "y: y; 1"), []int{0}, []string{"y"}, api.ErrProof}, {"a start that a proof explains", lineUp([]int{2}, "integrator 1 2 1*1 0*1", "adder 2 1 1*1/2"), sys(t, "y: y; 1"), []int{0}, []string{"2 * y"}, api.OK}, {"a start that an adder changes", lineUp([]int{2}, "integrator 1 2 1*1 0*1", "adder 2 2 1*1/2"), sys(t, "y: y; 1"), []int{0}, []string{"2 * y"}, api.ErrProof},
		{"the same variable twice", lineUp([]int{1, 2, 1}, "integrator 1 1 2*1 0*1", "integrator 2 0 1*-1 0*1"), swing(t), []int{0, 1, 0}, []string{"x", "v"}, api.OK}, {"only one of two", lineUp([]int{2}, "integrator 1 1 2*1 0*1", "integrator 2 0 1*-1 0*1"), swing(t), []int{1}, []string{"x", "v"}, api.OK},
		{"a first integral", lineUp([]int{1, 2}, "integrator 1 1 2*1 0*1", "integrator 2 0 1*-1 0*1", "integrator 3 1 4*1 0*1", "adder 4 0 0*1 0*-1"), swing(t), []int{0, 1}, []string{"x", "v", "x^2 + v^2"}, api.OK}, {"a first integral from another start", lineUp([]int{1, 2}, "integrator 1 1 2*1 0*1", "integrator 2 0 1*-1 0*1", "integrator 3 2 4*1 0*1", "adder 4 0 0*1 0*-1"), swing(t), []int{0, 1}, []string{"x", "v", "x^2 + v^2"}, api.ErrProof},
		{"no integrator", api.Plan{Shafts: 1, Outputs: []int{0}}, sys(t, "x: 1; 0"), []int{0}, nil, api.ErrProof}, {"a function that is the same along the solution", lineUp([]int{1}, "integrator 1 0 2*1 0*1", "adder 2 1 0*1 0*-1"), sys(t, "x: y; 0", "y: 0; 1"), []int{0}, []string{"x"}, api.ErrProof},
	} {
		expectError(t, "Verify: "+row.what, Verify(row.p, row.s, row.wanted, polys(t, row.s, row.proof...)), row.want)
	}
}

func TestVerifyErrors(t *testing.T) {
	s := swing(t)
	proof := polys(t, s, "x", "v")
	large := lineUp([]int{1, 2}, "integrator 1 1 2*1 0*1", "integrator 2 0 1*-1 0*1", powers(3, 0, 12), powers(4, 3, 2))
	for _, row := range []struct {
		what   string
		p      api.Plan
		s      api.System
		wanted []int
		proof  []api.Poly
		want   api.Errno
	}{
		{"no plan", api.Plan{}, api.System{}, nil, nil, api.ErrRange}, {"no system", circle(), api.System{}, nil, nil, api.ErrEmpty}, {"a plan before a system", lineUp(nil, "adder 1 0 1*1"), api.System{}, nil, nil, api.ErrLoop},
		{"nothing wanted", circle(), s, nil, nil, api.ErrEmpty}, {"25 wanted", circle(), s, slices.Repeat([]int{7}, 25), nil, api.ErrMany}, {"24 wanted", circle(), s, make([]int, 24), proof, api.ErrShape}, {"the variable 2 of 2", circle(), s, []int{0, 2}, nil, api.ErrUnknown}, {"a variable below 0", circle(), s, []int{-1, 0}, nil, api.ErrUnknown},
		{"no proof", circle(), s, []int{0}, nil, api.ErrShape}, {"too short a proof", circle(), s, []int{0, 1}, proof[:1], api.ErrShape}, {"too long a proof", circle(), s, []int{0, 1}, append(slices.Clone(proof), nil), api.ErrShape},
		{"a polynomial in another number of variables", circle(), s, []int{0}, []api.Poly{proof[0], {{Factor: "1", Powers: []int{0, 1}}}}, api.ErrShape}, {"a polynomial with an error", circle(), spread(s), []int{0}, []api.Poly{proof[0], {{Factor: "0", Powers: []int{0, 1, 0}}}}, api.ErrZero}, {"the first polynomial with an error", circle(), s, []int{0}, []api.Poly{make(api.Poly, 65), {{Factor: "0", Powers: []int{0, 1, 0}}}}, api.ErrMany},
		{"too few outputs", circle(), spread(s), []int{0, 1, 0}, proof, api.ErrShape}, {"too many outputs", circle(), s, []int{0}, proof, api.ErrShape}, {"a start that is not exact", large, spread(s), []int{0, 1}, proof, api.ErrState}, {"a shaft that is too large", large, s, []int{0, 1}, proof, api.ErrLarge}, {"a shaft that is too large before no proof", large, s, []int{1, 0}, proof, api.ErrLarge},
	} {
		expectError(t, "Verify: "+row.what, Verify(row.p, row.s, row.wanted, row.proof), row.want)
	}
}

// TestVerifyReadings proves plans for their own systems, and for no changed ones.
func TestVerifyReadings(t *testing.T) {
	r := rand.New(rand.NewSource(5))
	proved, refused := 0, 0
	for range 300 {
		p := somePlan(t, r, 2+r.Intn(6), integrator, integrator, adder, table)
		s, _, err := Read(p)
		if err != api.OK || len(s.Names) == 0 {
			continue
		}
		p.Outputs = nil
		var wanted []int
		for _, u := range p.Units {
			if u.Kind == integrator {
				wanted, p.Outputs = append(wanted, len(wanted)), append(p.Outputs, u.Out)
			}
		}
		proof := polys(t, s, s.Names...)
		expectError(t, "Verify of what is read", Verify(p, s, wanted, proof), api.OK)
		proved++
		i := r.Intn(len(wanted))
		one := api.Poly{{Factor: "1", Powers: make([]int, len(wanted)+1)}}
		changedProof := slices.Clone(proof)
		changedProof[i] = must[api.Poly](t, "AddPoly")(exact.AddPoly(proof[i], one, len(wanted)))
		expectError(t, "Verify of another proof", Verify(p, s, wanted, changedProof), api.ErrProof)
		other := s
		other.Rates = slices.Clone(s.Rates)
		other.Rates[i] = must[api.Poly](t, "AddPoly")(exact.AddPoly(s.Rates[i], one, len(wanted)))
		expectError(t, "Verify of another rate", Verify(p, other, wanted, proof), api.ErrProof)
		other = s
		other.Start = slices.Clone(s.Start)
		other.Start[i] = api.Span{Low: "1000", High: "1000"}
		expectError(t, "Verify of another start", Verify(p, other, wanted, proof), api.ErrProof)
		refused++
	}
	if proved < 200 || refused < 200 {
		t.Errorf("only %d plans were proved", proved)
	}
}

// TestVerifyGreat has polynomials on the way that are much greater than the limits.
func TestVerifyGreat(t *testing.T) {
	s := ring(24)
	p := api.Plan{Shafts: 26, Outputs: []int{1}}
	var proof []api.Poly
	for i := range 24 {
		p.Units = append(p.Units, api.Unit{Kind: integrator, Out: i + 1, Start: "0", Feeds: []api.Feed{{Shaft: 25, Ratio: "1"}, {Shaft: 0, Ratio: "1"}}})
		var sum api.Poly
		for v := range 24 {
			sum = append(sum, api.Term{Factor: api.Rat(strconv.Itoa(v + i + 1)), Powers: make([]int, 25)})
			sum[v].Powers[v+1] = 1
		}
		p.Units[i].Start = must[api.Rat](t, "EvalPoly")(exact.EvalPoly(sum, append([]api.Rat{"0"}, startsOf(s)...)))
		proof = append(proof, sum)
	}
	curve := []api.Rat{"0", "0", "0", "0", "0", "0", "0", "0", "0", "0", "0", "0", "1"}
	p.Units = append(p.Units, api.Unit{Kind: table, Out: 25, Start: shown(curve, api.Feed{Shaft: 1, Ratio: "1"}, []api.Rat{"0", p.Units[0].Start}), Feeds: []api.Feed{{Shaft: 1, Ratio: "1"}}, Curve: curve})
	expectError(t, "Verify of the power 12 of 24 variables", Verify(p, s, []int{0}, proof), api.ErrProof)
}

// startsOf returns the starts of a system, which are exact.
func startsOf(s api.System) []api.Rat {
	var starts []api.Rat
	for _, start := range s.Start {
		starts = append(starts, start.Low)
	}
	return starts
}
