package scale

import (
	"math/big"
	"math/rand"
	"testing"

	"integraph/api"
	"integraph/equation"
	"integraph/generate"
	"integraph/plan"
)

// TestNothingLeavesItsLimits has P6.6 for positions within the ranges.
func TestNothingLeavesItsLimits(t *testing.T) {
	r := rand.New(rand.NewSource(11))
	fitting := 0
	for range 2000 {
		p := somePlan(t, r, 1+r.Intn(5))
		ranges, b := someRanges(r, p.Shafts), someBench(r)
		s, err := Best(p, ranges, b)
		if r.Intn(2) == 0 {
			s, err = agreedSetup(r, p, b), api.OK
		}
		if err != api.OK || CheckSetup(p, ranges, b, s) != api.OK {
			continue
		}
		fitting++
		gears, err := Ratios(p, s)
		expectError(t, "Ratios", err, api.OK)
		slack, err := Slack(p, ranges, b, s)
		expectError(t, "Slack", err, api.OK)
		turns := make([]*big.Rat, p.Shafts)
		for i, span := range ranges {
			share := big.NewRat(int64(r.Intn(3)), 2)
			at := share.Add(share.Mul(share, new(big.Rat).Sub(bigOf(span.High), bigOf(span.Low))), bigOf(span.Low))
			turns[i] = at.Mul(at, bigPower(s.Shafts[i]))
			if !isBelow(0, new(big.Rat).Abs(turns[i]), b.Shaft) || slack[i] != "0" && bigOf(slack[i]).Cmp(big.NewRat(1, 1)) < 0 {
				t.Errorf("the shaft %d turns by %v, with the slack %s", i, turns[i], slack[i])
			}
		}
		for i, u := range p.Units {
			for j, f := range u.Feeds {
				most := b.Shaft
				if u.Kind == "integrator" && j == 0 {
					most = b.Disc
				}
				input := new(big.Rat).Mul(turns[f.Shaft], bigOf(gears[i][j]))
				if !isBelow(0, input.Abs(input), most) {
					t.Errorf("the input %d of %v turns by %v", j, u, input)
				}
				gear := bigOf(gears[i][j])
				gear.Quo(gear, bigOf(f.Ratio))
				if gear.Cmp(bigPower(b.Gear)) > 0 || gear.Cmp(bigPower(-b.Gear)) < 0 {
					t.Errorf("the gear of the input %d of %v is %v", j, u, gear)
				}
			}
		}
	}
	if fitting < 500 {
		t.Errorf("only %d set-ups fit", fitting)
	}
}

// TestBestRises has P6.6 for benches with a greater Shaft or Gear.
func TestBestRises(t *testing.T) {
	r := rand.New(rand.NewSource(12))
	rising, refused := 0, 0
	for range 2000 {
		p := somePlan(t, r, 1+r.Intn(6))
		ranges, b := someRanges(r, p.Shafts), someBench(r)
		s, err := Best(p, ranges, b)
		circle, refuseError := Refuse(p, ranges, b)
		if (err == api.OK) == (refuseError == api.OK) {
			t.Fatalf("Best has the error %d, and Refuse the error %d", err, refuseError)
		}
		if err != api.OK {
			expectError(t, "CheckRefused", CheckRefused(p, ranges, b, circle), api.OK)
			refused++
			continue
		}
		expectError(t, "CheckSetup of the greatest set-up", CheckSetup(p, ranges, b, s), api.OK)
		more := b
		if r.Intn(2) == 0 {
			more.Shaft += 1 + r.Intn(3)
		} else {
			more.Gear += 1 + r.Intn(3)
		}
		greater, err := Best(p, ranges, more)
		expectError(t, "Best with a greater bench", err, api.OK)
		old, next := append([][]int{s.Shafts}, s.Inputs...), append([][]int{greater.Shafts}, greater.Inputs...)
		for i := range old {
			for j, e := range old[i] {
				if next[i][j] < e {
					t.Errorf("the exponents of %v fall from %v to %v", p, s, greater)
				}
				if next[i][j] > e {
					rising++
				}
			}
		}
	}
	if rising < 500 || refused < 200 {
		t.Errorf("only %d exponents rise, and only %d plans are refused", rising, refused)
	}
}

// TestFromProblemToTurns sets up the plan of a problem.
func TestFromProblemToTurns(t *testing.T) {
	problem, _, err := equation.ReadProblem("problem logistic\ny' = y - y^2\nstart y = 1/4\nend 4\n")
	expectError(t, "ReadProblem", err, api.OK)
	s, err := generate.System(problem, 8)
	expectError(t, "System", err, api.OK)
	p, _, err := plan.Make(s)
	expectError(t, "Make", err, api.OK)
	n, err := plan.Integrators(p)
	expectError(t, "Integrators", err, api.OK)
	box := spans("0", "4")
	for range n {
		box = append(box, api.Span{Low: "-1", High: "1"})
	}
	ranges, err := Ranges(p, box)
	expectError(t, "Ranges", err, api.OK)
	b := api.Bench{Constant: 5, Disc: 6, Shaft: 12, Gear: 7}
	setup, err := Best(p, ranges, b)
	expectError(t, "Best", err, api.OK)
	expectError(t, "CheckSetup", CheckSetup(p, ranges, b, setup), api.OK)
	q, err := Geared(p, b, setup)
	expectError(t, "Geared", err, api.OK)
	expectInTurns(t, p, b, setup, q)
	series, err := generate.Series(s, 4)
	expectError(t, "Series", err, api.OK)
	shown := seriesOf(t, q, 5)[q.Outputs[0]]
	for j, c := range series[0] {
		if want := product(c, bigPower(setup.Shafts[p.Outputs[0]]-j*setup.Shafts[0])); ratOf(shown[j]) != want {
			t.Errorf("the coefficient %d of the output is %v, want %s", j, shown[j], want)
		}
	}
}
