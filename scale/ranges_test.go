package scale

import (
	"math/big"
	"math/rand"
	"testing"

	"integraph/api"
	"integraph/exact"
	"integraph/plan"
)

func TestExponent(t *testing.T) {
	for _, row := range []struct {
		a    api.Rat
		want int
		err  api.Errno
	}{
		{"9/10", -1, api.OK}, {"8", 3, api.OK}, {"1", 0, api.OK}, {"2", 1, api.OK}, {"1/2", -1, api.OK}, {"3", 1, api.OK}, {"7", 2, api.OK}, {"15/2", 2, api.OK}, {"1/3", -2, api.OK}, {"1/4", -2, api.OK}, {"2/3", -1, api.OK}, {"3/2", 0, api.OK},
		{digits("9", 600), 1993, api.OK}, {"1/" + digits("9", 600), -1994, api.OK},
		{"0", 0, api.ErrRange}, {"-1", 0, api.ErrRange}, {"-1/2", 0, api.ErrRange}, {"", 0, api.ErrForm}, {"2/4", 0, api.ErrForm}, {"-2/4", 0, api.ErrForm}, {digits("9", 601), 0, api.ErrLarge}, {"-" + digits("9", 601), 0, api.ErrLarge},
	} {
		got, err := Exponent(row.a)
		expect(t, "Exponent of "+string(row.a), got, err, row.want, row.err)
	}
	for e := -1990; e <= 1990; e++ {
		got, err := Exponent(ratOf(bigPower(e)))
		expect(t, "Exponent of a power of 2", got, err, e, api.OK)
	}
	r := rand.New(rand.NewSource(1))
	for range 3000 {
		num, den := big.NewInt(1+r.Int63()), big.NewInt(1+r.Int63())
		a := new(big.Rat).SetFrac(num.Rsh(num, uint(r.Intn(62))).Add(num, big.NewInt(1)), den.Rsh(den, uint(r.Intn(62))).Add(den, big.NewInt(1)))
		got, err := Exponent(ratOf(a))
		if err != api.OK || bigPower(got).Cmp(a) > 0 || bigPower(got+1).Cmp(a) <= 0 {
			t.Errorf("Exponent of %v: got %d and the error %d", a, got, err)
		}
	}
}

func TestLargest(t *testing.T) {
	for _, row := range []struct {
		s    api.Span
		want api.Rat
		err  api.Errno
	}{
		{api.Span{Low: "1", High: "8"}, "8", api.OK}, {api.Span{Low: "-9", High: "8"}, "9", api.OK}, {api.Span{Low: "-8", High: "9"}, "9", api.OK}, {api.Span{Low: "-8", High: "8"}, "8", api.OK}, {api.Span{Low: "-3/2", High: "-1"}, "3/2", api.OK}, {api.Span{Low: "0", High: "0"}, "0", api.OK}, {api.Span{Low: "-1/3", High: "0"}, "1/3", api.OK}, {api.Span{Low: "-" + digits("9", 600), High: "0"}, digits("9", 600), api.OK},
		{api.Span{Low: "1", High: "0"}, "", api.ErrOrder}, {api.Span{Low: "1", High: ""}, "", api.ErrForm}, {api.Span{Low: "00", High: "0"}, "", api.ErrForm}, {api.Span{Low: "0", High: digits("9", 601)}, "", api.ErrLarge},
	} {
		got, err := Largest(row.s)
		expect(t, "Largest", got, err, row.want, row.err)
	}
}

func TestRanges(t *testing.T) {
	p, _, _ := growth()
	got, err := Ranges(p, spans("0", "2", "1", "8"))
	expectList(t, "Ranges of growth", got, err, spans("0", "2", "1", "8"), api.OK)
	// Example 1 of DOC.md: the table squares 2 t - x.
	p = lineUp([]int{2}, "integrator 1 0 0*1 0*1", "adder 3 0 0*2 1*-1", "table 2 0 3*1 : 0 0 1")
	got, err = Ranges(p, spans("0", "1", "-1", "1"))
	expectList(t, "Ranges of example 1", got, err, spans("0", "1", "-1", "1", "-4", "9", "-1", "3"), api.OK)
	p = lineUp(nil, "adder 1 1/3 0*-2", "table 2 1/3 1*1 : 0 1")
	got, err = Ranges(p, spans("-1", "4"))
	expectList(t, "Ranges without integrators", got, err, spans("-1", "4", "-23/3", "7/3", "-23/3", "7/3"), api.OK)
	got, err = Ranges(api.Plan{Shafts: 1}, spans("3", "4"))
	expectList(t, "Ranges without units", got, err, spans("3", "4"), api.OK)

	nines := digits("9", 600)
	long := lineUp(nil, "adder 1 0 0*2")
	steep := lineUp(nil, "table 1 0 0*1 : 0 0 0 0 0 0 0 1", "table 2 0 1*1 : 0 0 1") // a sum of powers of 14
	for _, row := range []struct {
		what string
		p    api.Plan
		box  []api.Span
		want api.Errno
	}{
		{"a wrong plan", api.Plan{}, nil, api.ErrRange}, {"no box", p, nil, api.ErrShape}, {"too large a box", p, make([]api.Span, 2), api.ErrShape}, {"a wrong span", p, spans("x", "0"), api.ErrForm}, {"a wrong order", p, spans("1", "0"), api.ErrOrder},
		{"a shape in front of a reading", steep, nil, api.ErrShape}, {"a span in front of a reading", steep, spans("1", "0"), api.ErrOrder}, {"a sum of powers of 14", steep, spans("0", "1"), api.ErrLarge},
		{"a long range", long, spans("0", nines), api.ErrLarge}, {"a range that is not too long", long, spans("0", digits("4", 600)), api.OK},
	} {
		got, err := Ranges(row.p, row.box)
		expectError(t, "Ranges: "+row.what, err, row.want)
		if err != api.OK && got != nil {
			t.Errorf("Ranges: %s: %v beside an error", row.what, got)
		}
	}
	many := lineUp(nil, "integrator 1 0 0*1 0*1", "integrator 2 0 1*1 0*1", "adder 3 0 0*1 1*1 2*1", "table 4 0 3*1 : 0 0 0 0 0 0 0 0 0 0 1")
	got, err = Ranges(many, spans("0", "1", "0", "1", "0", "1"))
	expectList(t, "Ranges with 66 terms", got, err, nil, api.ErrMany)
}

// TestRangesOfPolynomials has the spans of the polynomials of the shafts, and positions in them.
func TestRangesOfPolynomials(t *testing.T) {
	r := rand.New(rand.NewSource(2))
	right := 0
	for range 500 {
		p := somePlan(t, r, 1+r.Intn(5))
		n, _ := plan.Integrators(p)
		box := someRanges(r, n+1)
		got, err := Ranges(p, box)
		_, shafts, readError := plan.Read(p)
		if readError != api.OK {
			expectList(t, "Ranges", got, err, nil, readError)
			continue
		}
		var point []api.Rat
		for _, s := range box {
			share := big.NewRat(int64(r.Intn(5)), 4)
			width := new(big.Rat).Sub(bigOf(s.High), bigOf(s.Low))
			point = append(point, ratOf(share.Add(share.Mul(share, width), bigOf(s.Low))))
		}
		var want []api.Span
		for i, shaft := range shafts {
			s, _ := exact.EvalSpans(shaft, box)
			want = append(want, s)
			at, _ := exact.EvalPoly(shaft, point)
			if bigOf(at).Cmp(bigOf(got[i].Low)) < 0 || bigOf(at).Cmp(bigOf(got[i].High)) > 0 {
				t.Errorf("the shaft %d of %v at %v is %s, beyond %v", i, p, point, at, got[i])
			}
		}
		expectList(t, "Ranges", got, err, want, api.OK)
		right++
	}
	if right < 300 {
		t.Errorf("only %d plans can be read", right)
	}
}

// bigLargest returns the greatest absolute value in a span.
func bigLargest(s api.Span) *big.Rat {
	low, high := bigOf(s.Low), bigOf(s.High)
	if low.Abs(low).Cmp(high.Abs(high)) > 0 {
		return low
	}
	return high
}

// bigTurns returns the largest value of a feed whose shaft has some ranges.
func bigTurns(ranges []api.Span, f api.Feed) *big.Rat {
	ratio := bigOf(f.Ratio)
	return ratio.Mul(ratio.Abs(ratio), bigLargest(ranges[f.Shaft]))
}

// isBelow reports whether 2^e times a largest number is at most 2^most.
func isBelow(e int, largest *big.Rat, most int) bool {
	return new(big.Rat).Mul(bigPower(e), largest).Cmp(bigPower(most)) <= 0
}

// bigLimit returns the greatest exponent up to 40 with which a largest number is at most 2^most.
func bigLimit(largest *big.Rat, most int) int {
	e := 40
	for !isBelow(e, largest, most) {
		e--
	}
	return e
}

func TestLimits(t *testing.T) {
	p, ranges, b := growth()
	shafts, inputs, err := Limits(p, ranges, b)
	expectList(t, "Limits of growth: shafts", shafts, err, []int{9, 7}, api.OK)
	expectLists(t, "Limits of growth: inputs", inputs, err, [][]int{{2, 9}}, api.OK)
	p, ranges, b = mixed()
	shafts, inputs, err = Limits(p, ranges, b)
	expectList(t, "Limits of mixed: shafts", shafts, err, []int{9, 7, 6, 7, 7}, api.OK)
	expectLists(t, "Limits of mixed: inputs", inputs, err, [][]int{{8}, {8, 7, 7}, {5, 10}, {7}}, api.OK)
	great, small := digits("9", 600), "1/"+digits("7", 600)
	p = lineUp(nil, "adder 1 0 0*1 1*"+string(great), "integrator 2 0 2*"+string(great)+" 0*1")
	p.Units[0].Feeds[1].Shaft = 0
	shafts, inputs, err = Limits(p, []api.Span{{Low: "-" + great, High: "0"}, {Low: small, High: small}, {Low: "0", High: "0"}}, api.Bench{Shaft: 40})
	expectList(t, "Limits of great numbers: shafts", shafts, err, []int{40 - 1994, 40, 40}, api.OK)
	expectLists(t, "Limits of great numbers: inputs", inputs, err, [][]int{{40 - 1994, 40 - 3987}, {40, 40 - 1994}}, api.OK)
	shafts, inputs, err = Limits(api.Plan{Shafts: 1}, spans("0", "1024"), api.Bench{Shaft: 3})
	expectList(t, "Limits without units: shafts", shafts, err, []int{-7}, api.OK)
	expectLists(t, "Limits without units: inputs", inputs, err, nil, api.OK)
	r := rand.New(rand.NewSource(3))
	for range 500 {
		p := somePlan(t, r, 1+r.Intn(6))
		ranges, b := someRanges(r, p.Shafts), someBench(r)
		shafts, inputs, err := Limits(p, ranges, b)
		var wantShafts []int
		for _, s := range ranges {
			wantShafts = append(wantShafts, bigLimit(bigLargest(s), b.Shaft))
		}
		var wantInputs [][]int
		for _, u := range p.Units {
			var list []int
			for j, f := range u.Feeds {
				most := b.Shaft
				if u.Kind == "integrator" && j == 0 {
					most = b.Disc
				}
				list = append(list, bigLimit(bigTurns(ranges, f), most))
			}
			wantInputs = append(wantInputs, list)
		}
		expectList(t, "Limits: shafts", shafts, err, wantShafts, api.OK)
		expectLists(t, "Limits: inputs", inputs, err, wantInputs, api.OK)
	}
}

func TestTurns(t *testing.T) {
	p, ranges, _ := growth()
	got, err := Turns(p, ranges, api.Setup{Shafts: []int{9, 6}, Inputs: [][]int{{2, 7}}})
	expectList(t, "Turns of growth", got, err, spans("0", "1024", "64", "512"), api.OK)
	got, err = Turns(p, ranges, api.Setup{Shafts: []int{-40, 40}, Inputs: [][]int{{40, -40}}})
	expectList(t, "Turns of a set-up that does not fit", got, err, spans("0", "1/549755813888", "1099511627776", "8796093022208"), api.OK)
	p, ranges, _ = mixed()
	got, err = Turns(p, ranges, mixedSetup())
	expectList(t, "Turns of mixed", got, err, spans("0", "256", "-384", "256", "-320", "-224", "32/3", "128", "0", "24"), api.OK)
	long := api.Plan{Shafts: 1}
	got, err = Turns(long, spans("-"+digits("4", 600), digits("4", 600)), api.Setup{Shafts: []int{1}})
	expectList(t, "Turns of a long number", got, err, spans("-"+digits("8", 600), digits("8", 600)), api.OK)
	got, err = Turns(long, spans("-"+digits("6", 600), "0"), api.Setup{Shafts: []int{1}})
	expectList(t, "Turns of a number that is too long", got, err, nil, api.ErrLarge)
	got, err = Turns(long, spans("0", "1/"+digits("7", 600)), api.Setup{Shafts: []int{-1}})
	expectList(t, "Turns of a denominator that is too long", got, err, nil, api.ErrLarge)
}

func TestSlack(t *testing.T) {
	p, ranges, b := growth()
	s := api.Setup{Shafts: []int{9, 6}, Inputs: [][]int{{2, 7}}}
	got, err := Slack(p, ranges, b, s)
	expectList(t, "Slack of growth", got, err, []api.Rat{"1", "2"}, api.OK)
	p, ranges, b = mixed()
	got, err = Slack(p, ranges, b, mixedSetup())
	expectList(t, "Slack of mixed", got, err, []api.Rat{"2", "4/3", "8/5", "4", "64/3"}, api.OK)
	ranges[2] = api.Span{Low: "0", High: "0"}
	got, err = Slack(p, ranges, b, mixedSetup())
	expectList(t, "Slack of 0", got, err, []api.Rat{"2", "4/3", "0", "4", "64/3"}, api.OK)
	_, ranges, _ = mixed()
	for _, row := range []struct {
		what   string
		change func(s *api.Setup)
		want   api.Errno
	}{
		{"an exponent above its limit", func(s *api.Setup) { s.Shafts[2] = 7 }, api.ErrLarge}, {"a conflict", func(s *api.Setup) { s.Inputs[1][1] = 4 }, api.ErrConflict}, {"a gear", func(s *api.Setup) { s.Inputs[3][0] = 2 }, api.ErrInfeasible},
	} {
		s := mixedSetup()
		row.change(&s)
		got, err := Slack(p, ranges, b, s)
		expectList(t, "Slack: "+row.what, got, err, nil, row.want)
	}
	alone := api.Plan{Shafts: 1}
	got, err = Slack(alone, spans("0", "1/"+digits("4", 600)), api.Bench{Shaft: 1}, api.Setup{Shafts: []int{0}})
	expectList(t, "Slack of a small range", got, err, []api.Rat{digits("8", 600)}, api.OK)
	got, err = Slack(alone, spans("0", "1/"+digits("6", 600)), api.Bench{Shaft: 0}, api.Setup{Shafts: []int{-1}})
	expectList(t, "Slack with too many digits", got, err, nil, api.ErrLarge)
}
