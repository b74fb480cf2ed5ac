package plan

import (
	"math/rand"
	"slices"
	"strconv"
	"strings"
	"testing"

	"integraph/api"
	"integraph/exact"
	"integraph/generate"
)

// The tests of this file are those of P4.5.

// expectMade makes a plan of a system, and reports one that is wrong, or has another number of integrators.
func expectMade(t *testing.T, what string, s api.System, integrators int) api.Plan {
	t.Helper()
	p, proof, err := Make(s)
	expectError(t, "Make of "+what, err, api.OK)
	n, err := Integrators(p)
	expect(t, "Integrators of "+what, n, err, integrators, api.OK)
	expectError(t, "Verify of "+what, Verify(p, s, numbers(len(s.Names)), proof), api.OK)
	return p
}

// sameSeries reports whether shafts of a plan have the Taylor coefficients of the variables of a system up to an order.
func sameSeries(t *testing.T, p api.Plan, s api.System, wanted []int, order int) bool {
	t.Helper()
	series := must[[][]api.Rat](t, "Series")(generate.Series(s, order))
	for i, got := range outputs(t, p, order) {
		if !slices.Equal(got, series[wanted[i]]) {
			return false
		}
	}
	return true
}

// outputs returns the Taylor coefficients of the outputs of a plan.
func outputs(t *testing.T, p api.Plan, order int) [][]api.Rat {
	t.Helper()
	read, shafts, err := Read(p)
	expectError(t, "Read", err, api.OK)
	if len(read.Names) == 0 { // a variable that does not occur
		read = api.System{Names: []string{"z"}, Rates: []api.Poly{nil}, Start: []api.Span{{Low: "0", High: "0"}}}
		for i := range shafts {
			for j := range shafts[i] {
				shafts[i][j].Powers = append(shafts[i][j].Powers, 0)
			}
		}
	}
	var list [][]api.Rat
	for _, shaft := range p.Outputs {
		list = append(list, must[[]api.Rat](t, "Along")(generate.Along(read, shafts[shaft], order)))
	}
	return list
}

func TestMake(t *testing.T) {
	for _, row := range []struct {
		s    []string
		want int
	}{
		{[]string{"y: y^2; 1"}, 2}, {[]string{"x: v; 1", "v: -x; 0"}, 2}, {[]string{"x: 0; 1"}, 1}, {[]string{"x: 5; 1"}, 1}, {[]string{"x: t; 0"}, 1}, {[]string{"x: 3 * t^2; 1/2"}, 2}, {[]string{"x: t * x; 1/2"}, 3}, {[]string{"x: 2 * t + x / 3 - 1; -2"}, 1},
		{[]string{"x: 0; 2", "y: 0; 3", "z: x * y * z; 1"}, 7}, {[]string{"x: y; 1", "y: (1 - x^2) * y - x; 0"}, 5}, {[]string{"x: 10 * y - 10 * x; 1", "y: 28 * x - y - x * z; 1", "z: x * y - 8/3 * z; 1"}, 7}, {[]string{"x: x^8; 1/2"}, 4}, {[]string{"x: y^4 * x; 1/2", "y: -y^2; 2"}, 6},
		{[]string{"x: x^2 * y + x * y; 1", "y: x - t; 2"}, 6}, {[]string{"x: x^5; 1"}, 5}, {[]string{"x: x^4 + x^6; 1"}, 5}, {[]string{"x: (t + x)^3; 1"}, 0},
		{[]string{"a: 1; 1", "b: a; 1", "c: b; 1", "d: a + b + c + d + e + f + g + h + t + 1; 1", "e: 0; 1", "f: 0; 2", "g: 0; 3", "h: 0; 4"}, 8}, {[]string{"a: b * c; 1", "b: a * c; 2", "c: -a^2; 3"}, 8},
	} {
		s := sys(t, row.s...)
		if row.want == 0 { // beyond the sizes: there may be a plan, or none
			p, proof, err := Make(s)
			if err != api.ErrMany && (err != api.OK || Verify(p, s, numbers(len(s.Names)), proof) != api.OK) {
				t.Errorf("Make of %v: the error %d", row.s, err)
			}
			continue
		}
		p := expectMade(t, strings.Join(row.s, ", "), s, row.want)
		if n := countKind(p, table); n > 0 {
			t.Errorf("Make of %v: %d tables", row.s, n)
		}
		if !sameSeries(t, p, s, numbers(len(s.Names)), 6) {
			t.Errorf("Make of %v: other series", row.s)
		}
	}
}

func TestMakeErrors(t *testing.T) {
	many := ring(23)
	many.Rates[0] = api.Poly{{Factor: "1", Powers: append([]int{0, 2}, make([]int, 22)...)}}
	full := ring(23)
	full.Rates[0] = api.Poly{{Factor: "1", Powers: append([]int{0, 1, 1}, make([]int, 21)...)}}
	expectMade(t, "24 integrators", many, 24)
	expectMade(t, "24 variables", ring(24), 24)
	long := api.Rat(digits("7", 61))
	full16 := sys(t, "x: x * y * z + 2 * x * y + x + y + z; 1", "y: x + y + z + t + 1; 1", "z: x + y + z + t + 1; 1", "w: w; 1")
	for i := range full16.Start[:3] {
		full16.Start[i] = api.Span{Low: api.Rat(digits("9", 600)), High: api.Rat(digits("9", 600))}
	}
	for _, row := range []struct {
		what string
		s    api.System
		want []api.Errno // of which each one is right
	}{
		{"no system", api.System{}, []api.Errno{api.ErrEmpty}}, {"a start that is not exact", spread(swing(t)), []api.Errno{api.ErrState}}, {"a start that is not exact before 9 targets", spread(sys(t, "x: (x + y + z + t)^2; 1", "y: 0; 1", "z: 0; 1")), []api.Errno{api.ErrState}},
		{"9 targets", sys(t, "x: (x + y + z + t)^2; 1", "y: 0; 1", "z: 0; 1"), []api.Errno{api.ErrMany}}, {"a target with many divisors", sys(t, "x: x^5 * y^5; 1", "y: 1; 1"), []api.Errno{api.ErrLimit}}, {"25 integrators", full, []api.Errno{api.ErrMany}},
		{"a long product", sys(t, "x: x * y; 1", "y: 0; 1"), []api.Errno{api.OK}},
		{"the power 12", sys(t, "x: x^12; 1"), []api.Errno{api.OK, api.ErrMany}}, {"the product of great powers", sys(t, "x: x * y^8 + y^8 + y^4; 1", "y: t; 1"), []api.Errno{api.OK, api.ErrMany}}, {"numbers of 61 digits", api.System{Names: []string{"x"}, Rates: []api.Poly{{{Factor: long, Powers: []int{0, 8}}}}, Start: []api.Span{{Low: "1/" + long, High: "1/" + long}}}, []api.Errno{api.OK, api.ErrLarge}},
		{"16 terms, the cost 4, and numbers of 600 digits", full16, []api.Errno{api.ErrLarge}}, {"numbers of 600 digits", api.System{Names: []string{"x"}, Rates: []api.Poly{{{Factor: "1", Powers: []int{0, 8}}}}, Start: []api.Span{{Low: api.Rat(digits("7", 600)), High: api.Rat(digits("7", 600))}}}, []api.Errno{api.ErrLarge}},
	} {
		p, proof, err := Make(row.s)
		if !slices.Contains(row.want, err) {
			t.Errorf("Make: %s: got the error %d, want one of %v", row.what, err, row.want)
		}
		if err == api.OK {
			expectError(t, "Verify: "+row.what, Verify(p, row.s, numbers(len(row.s.Names)), proof), api.OK)
		} else if !samePlan(p, api.Plan{}) || proof != nil {
			t.Errorf("Make: %s: a result beside the error %d", row.what, err)
		}
	}
}

// TestMakeSure has systems at the bounds within which a plan is sure to be found: 16 terms, and the cost 4.
func TestMakeSure(t *testing.T) {
	others := func(n int) string {
		var names strings.Builder
		for i := range n {
			names.WriteString(" + a" + strconv.Itoa(i+1))
		}
		return names.String()
	}
	for _, row := range []struct {
		rates []string // of x, y and z
		cost  int
	}{
		{[]string{"x^3" + others(15), "0", "0"}, 3}, {[]string{"x^3 + x^2 + y^2" + others(13), "0", "0"}, 4}, {[]string{"x^2 * y + x * y" + others(14), "0", "0"}, 4}, {[]string{"x^2 * y + x * y" + others(6), "x^2 * y + x * y" + others(6), "0"}, 4}, {[]string{"x * y * z + x * y" + others(4), "x * y * z + x * y" + others(3), "x * y * z + x * y" + others(3)}, 4},
		{[]string{"x^5" + others(15), "0", "0"}, 4}, {[]string{"x^6 + x^4" + others(14), "0", "0"}, 4}, {[]string{"x^6 + x^3" + others(14), "0", "0"}, 4}, {[]string{"x^3 * t + t^2 * x + 1" + others(13), "0", "0"}, 0}, {[]string{"t * x * y" + others(15), "0", "0"}, 4}, {[]string{"x^2 * y^2 + x * y" + others(14), "0", "0"}, 3}, {[]string{"x^2 * y^4" + others(7), "x * y^2" + others(7), "0"}, 4},
		{[]string{"x * y + z * x" + others(5), "x * y + x * z" + others(5), "x * y + x * z"}, 4}, {[]string{"t * x + t * y" + others(12), "1", "2"}, 4}, {[]string{"x^4 * y" + others(15), "0", "0"}, 4}, {[]string{"y^4 * x" + others(7), "x" + others(7), "0"}, 4},
	} {
		lines := []string{"x: " + row.rates[0] + "; 1/2", "y: " + row.rates[1] + "; -3", "z: " + row.rates[2] + "; 2/3"}
		for i := range 15 {
			lines = append(lines, "a"+strconv.Itoa(i+1)+": 0; "+strconv.Itoa(i-7))
		}
		s := sys(t, lines...)
		_, cost, err := Products(s)
		if row.cost == 0 {
			continue
		}
		expect(t, "the cost of "+row.rates[0], cost, err, row.cost, api.OK)
		p := expectMade(t, row.rates[0], s, 18+row.cost)
		if !sameSeries(t, p, s, numbers(18), 4) {
			t.Errorf("Make of %v: other series", row.rates)
		}
	}
}

// TestMakeSystems makes plans of many small systems.
func TestMakeSystems(t *testing.T) {
	r := rand.New(rand.NewSource(8))
	costs := map[int]int{}
	for range 400 {
		vars := 1 + r.Intn(4)
		s := someSystem(t, r, vars, 4, 1+r.Intn(4))
		terms := 0
		for _, rate := range s.Rates {
			terms += len(rate)
		}
		_, cost, want := Products(s)
		p, proof, err := Make(s)
		switch {
		case want != api.OK:
			expectError(t, "Make", err, want)
		case vars+cost > api.MaxVars:
			expectError(t, "Make", err, api.ErrMany)
		case terms > 16 || cost > 4:
			if err != api.OK && err != api.ErrMany {
				t.Errorf("Make: the error %d", err)
			}
		default:
			expectError(t, "Make", err, api.OK)
			costs[cost]++
		}
		if err != api.OK {
			continue
		}
		n, err := Integrators(p)
		expect(t, "Integrators", n, err, vars+cost, api.OK)
		expectError(t, "Verify", Verify(p, s, numbers(vars), proof), api.OK)
		if !sameSeries(t, p, s, numbers(vars), 3) {
			t.Errorf("Make of %v: other series", s)
		}
	}
	for cost := range 5 {
		if costs[cost] < 5 {
			t.Errorf("only %d plans of systems with the cost %d", costs[cost], cost)
		}
	}
}

// TestMakeLongNumbers makes plans of systems with numbers of 60 digits.
func TestMakeLongNumbers(t *testing.T) {
	r := rand.New(rand.NewSource(9))
	long := func() api.Rat {
		var text strings.Builder
		for range 60 {
			text.WriteByte(byte('1' + r.Intn(9)))
		}
		return api.Rat(text.String())
	}
	for _, row := range []struct {
		rates []string
		want  int
	}{{[]string{"x^8"}, 4}, {[]string{"x * y", "x * y"}, 4}, {[]string{"x^2 * y^2 + x", "x * y + y"}, 5}, {[]string{"x * y^4", "y"}, 6}, {[]string{"x + y + t + 1", "x + y + t + 1"}, 2}} {
		for range 5 {
			var lines []string
			for i, rate := range row.rates {
				lines = append(lines, []string{"x", "y"}[i]+": "+rate+"; 1")
			}
			s := sys(t, lines...)
			whole := r.Intn(2) == 0
			number := func() api.Rat {
				if whole {
					return long()
				}
				return must[api.Rat](t, "Div")(exact.Div(long(), long()))
			}
			for i := range s.Rates {
				start := number()
				if row.rates[0] == "x * y^4" {
					start = long()
				}
				s.Start[i] = api.Span{Low: start, High: start}
				for j := range s.Rates[i] {
					s.Rates[i][j].Factor = number()
				}
			}
			expectMade(t, row.rates[0], s, row.want)
		}
	}
}
