package generate

import (
	"math"
	"math/big"
	"math/rand"
	"slices"
	"testing"

	"integraph/api"
	"integraph/exact"
)

// The tests of this file are those of P3.3.

// derivativeBy returns the derivative of a polynomial along a system as it is defined, with the functions of exact.
func derivativeBy(t *testing.T, s api.System, p api.Poly) api.Poly {
	t.Helper()
	n := len(s.Names)
	of := must[api.Poly](t, "the derivative")
	sum := of(exact.DerivePoly(p, n, 0))
	for v, rate := range s.Rates {
		sum = of(exact.AddPoly(sum, of(exact.MulPoly(of(exact.DerivePoly(p, n, v+1)), rate, n)), n))
	}
	return sum
}

// coefficients returns the Taylor coefficients of a polynomial as they are defined: of its derivatives.
func coefficients(t *testing.T, s api.System, p api.Poly, order int) []api.Rat {
	t.Helper()
	point := []api.Rat{"0"}
	for _, start := range s.Start {
		point = append(point, start.Low)
	}
	var list []api.Rat
	factorial := big.NewRat(1, 1)
	for k := range order + 1 {
		if k > 0 {
			p = derivativeBy(t, s, p)
			factorial.Mul(factorial, big.NewRat(int64(k), 1))
		}
		value := bigOf(must[api.Rat](t, "EvalPoly")(exact.EvalPoly(p, point)))
		list = append(list, ratOf(value.Quo(value, factorial)))
	}
	return list
}

// alone returns the polynomial that is a variable of a system.
func alone(s api.System, v int) api.Poly {
	powers := make([]int, len(s.Names)+1)
	powers[v+1] = 1
	return api.Poly{{Factor: "1", Powers: powers}}
}

func TestLie(t *testing.T) {
	s := sys(t, "x: x * y + t; 0..1", "y: 2 - x; 1")
	for _, row := range []struct{ p, want string }{
		{"0", "0"}, {"5/3", "0"}, {"t", "1"}, {"x", "x * y + t"}, {"y", "2 - x"}, {"t^3", "3 * t^2"}, {"x^2", "2 * x^2 * y + 2 * x * t"}, {"x * y", "(x * y + t) * y + x * (2 - x)"},
		{"t * x - y", "x + t * (x * y + t) - 2 + x"}, {"x * y^2 * t", "x * y^2 + y^2 * t * (x * y + t) + 2 * x * y * t * (2 - x)"},
		{"y^12", "12 * y^11 * (2 - x)"}, {"x^11", "11 * x^10 * (x * y + t)"},
	} {
		got, err := Lie(s, poly(t, row.p, "x", "y"))
		expectPolys(t, "Lie of "+row.p, []api.Poly{got}, err, []api.Poly{poly(t, row.want, "x", "y")}, api.OK)
	}
}

func TestLieErrors(t *testing.T) {
	s := sys(t, "x: x * y + t; 0..1", "y: 2 - x; 1")
	square := sys(t, "x: x^2; 0", "y: y; 0", "z: z + t; 0")
	nines := digits("9", 600)
	for _, row := range []struct {
		what string
		s    api.System
		p    api.Poly
		want api.Errno
	}{
		{"no system", api.System{}, api.Poly{{}}, api.ErrEmpty}, {"no polynomial", s, api.Poly{{}}, api.ErrShape}, {"a polynomial in another number of variables", s, poly(t, "x", "x"), api.ErrShape},
		{"a polynomial with 65 terms", s, make(api.Poly, 65), api.ErrMany}, {"a factor that is none", s, api.Poly{{Factor: "01", Powers: []int{0, 0, 0}}}, api.ErrForm}, {"too great a power", s, api.Poly{{Factor: "1", Powers: []int{0, 13, 0}}}, api.ErrLarge},
		{"a power 13", s, poly(t, "x^12", "x", "y"), api.ErrLarge}, {"a power 13 that cancels", sys(t, "x: x * y; 1", "y: -y^2; 1"), poly(t, "x^6 * y^6", "x", "y"), api.OK},
		{"74 terms", square, poly(t, "(x + y + z + t)^4 + (x + y + z)^5 + x^6 * (y + z)", "x", "y", "z"), api.ErrMany},
		{"600 digits", s, poly(t, nines+" * y", "x", "y"), api.ErrLarge}, {"600 digits of a factor", sys(t, "x: 0; 1", "y: 1; 1"), poly(t, nines+" * y", "x", "y"), api.OK},
		{"601 digits", sys(t, "x: "+nines+" * y; 1", "y: 0; 1"), poly(t, "x^2", "x", "y"), api.ErrLarge}, {"many digits that cancel", sys(t, "x: "+nines+" * y; 1", "y: "+nines+"* x; 1"), poly(t, "x^2 - y^2", "x", "y"), api.OK},
		{"the power before the terms", square, poly(t, "(x + y + z + t)^4 + (x + y + z)^5 + x^12", "x", "y", "z"), api.ErrLarge},
	} {
		got, err := Lie(row.s, row.p)
		if row.want != api.OK && got != nil || err != row.want {
			t.Errorf("Lie: %s: got %v and the error %d, want %d", row.what, got, err, row.want)
		}
		is, err := IsIntegral(row.s, row.p)
		if err != api.OK && is {
			t.Errorf("IsIntegral: %s: true beside the error %d", row.what, err)
		}
	}
}

func TestLieIsTheDerivative(t *testing.T) {
	r := rand.New(rand.NewSource(2))
	for range 500 {
		vars := 1 + r.Intn(3)
		s, p := someSystem(t, r, vars, 3, 3), somePoly(t, r, vars, 4, 4)
		got, err := Lie(s, p)
		expectPolys(t, "Lie", []api.Poly{got}, err, []api.Poly{derivativeBy(t, s, p)}, api.OK)
	}
}

func TestSeries(t *testing.T) {
	for _, row := range []struct {
		s     api.System
		order int
		want  [][]api.Rat
	}{
		{sys(t, "y: -y + a; 1", "a: b; 0", "b: -a; 1"), 3, [][]api.Rat{{"1", "-1", "1", "-1/3"}, {"0", "1", "0", "-1/6"}, {"1", "0", "-1/2", "0"}}},
		{sys(t, "y: q; 4", "q: 1/2 * w * q; 2", "w: -1/2 * w^3 * q; 1/2"), 4, [][]api.Rat{{"4", "2", "1/4", "0", "0"}, {"2", "1/2", "0", "0", "0"}, {"1/2", "-1/8", "1/32", "-1/128", "1/512"}}},
		{sys(t, "x: x; 1"), 0, [][]api.Rat{{"1"}}}, {sys(t, "x: 0; -3/7"), 2, [][]api.Rat{{"-3/7", "0", "0"}}}, {sys(t, "x: x^2; 1"), 5, [][]api.Rat{{"1", "1", "1", "1", "1", "1"}}},
		{sys(t, "x: 6 * t^5; 0"), 7, [][]api.Rat{{"0", "0", "0", "0", "0", "0", "1", "0"}}}, {sys(t, "x: t * y; 2", "y: 3; 1"), 3, [][]api.Rat{{"2", "0", "1/2", "1"}, {"1", "3", "0", "0"}}},
		{sys(t, "x: x^12 * t^0; 1/2"), 1, [][]api.Rat{{"1/2", "1/4096"}}},
	} {
		got, err := Series(row.s, row.order)
		if err != api.OK || !slices.EqualFunc(got, row.want, func(a, b []api.Rat) bool { return slices.Equal(a, b) }) {
			t.Errorf("Series of %v: got %v and the error %d, want %v", row.s, got, err, row.want)
		}
	}
}

// TestSeriesAndAlong compares them with the values of derivatives of derivatives.
func TestSeriesAndAlong(t *testing.T) {
	r := rand.New(rand.NewSource(3))
	for range 200 {
		vars := 1 + r.Intn(3)
		s, p := someSystem(t, r, vars, 3, 2), somePoly(t, r, vars, 4, 3)
		order := r.Intn(5)
		series := must[[][]api.Rat](t, "Series")(Series(s, order))
		if len(series) != vars {
			t.Fatalf("%d series of %d variables", len(series), vars)
		}
		for v := range vars {
			expectList(t, "Series", series[v], api.OK, coefficients(t, s, alone(s, v), order), api.OK)
		}
		got, err := Along(s, p, order)
		expectList(t, "Along", got, err, coefficients(t, s, p, order), api.OK)
	}
}

func TestAlong(t *testing.T) {
	s := sys(t, "x: y; 0", "y: -x; 1")
	for _, row := range []struct {
		p    string
		want []api.Rat
	}{
		{"0", []api.Rat{"0", "0", "0", "0"}}, {"7/2", []api.Rat{"7/2", "0", "0", "0"}}, {"t", []api.Rat{"0", "1", "0", "0"}}, {"t^2 - 3", []api.Rat{"-3", "0", "1", "0"}},
		{"x", []api.Rat{"0", "1", "0", "-1/6"}}, {"x^2 + y^2", []api.Rat{"1", "0", "0", "0"}}, {"2 * x * y", []api.Rat{"0", "2", "0", "-4/3"}}, {"t * y + x^3", []api.Rat{"0", "1", "0", "1/2"}},
	} {
		got, err := Along(s, poly(t, row.p, "x", "y"), 3)
		expectList(t, "Along of "+row.p, got, err, row.want, api.OK)
	}
	got, err := Along(s, poly(t, "x", "x", "y"), 16)
	if err != api.OK || len(got) != 17 || got[15] != "-1/1307674368000" || got[16] != "0" {
		t.Errorf("the 16th coefficients: got %v and the error %d", got, err)
	}
}

// TestAlongOnTheWay has an integral that is constant while the variables have too many digits.
func TestAlongOnTheWay(t *testing.T) {
	long := digits("3", 200)
	s := sys(t, "x: "+long+" * y; 2", "y: -"+long+" * x; 3/7", "z: z^2; "+long)
	series, err := Series(s, 3)
	if series != nil || err != api.ErrLarge {
		t.Errorf("Series: got %v and the error %d", series, err)
	}
	want := append([]api.Rat{"205/49"}, slices.Repeat([]api.Rat{"0"}, 16)...)
	got, err := Along(s, poly(t, "x^2 + y^2", "x", "y", "z"), 16)
	expectList(t, "Along of an integral", got, err, want, api.OK)
	got, err = Along(s, poly(t, "z", "x", "y", "z"), 1)
	expectList(t, "Along of two coefficients", got, err, []api.Rat{api.Rat(long), ratOf(new(big.Rat).Mul(bigOf(api.Rat(long)), bigOf(api.Rat(long))))}, api.OK)
	got, err = Along(s, poly(t, "z", "x", "y", "z"), 3)
	expectList(t, "Along of four coefficients", got, err, nil, api.ErrLarge)
}

func TestSeriesErrors(t *testing.T) {
	good, wide := sys(t, "x: x; 1", "y: y; 2"), sys(t, "x: x; 1", "y: y; 1..2")
	p := poly(t, "x", "x", "y")
	for _, row := range []struct {
		what  string
		s     api.System
		p     api.Poly
		order int
		want  api.Errno
	}{
		{"order 0", good, p, 0, api.OK}, {"order 16", good, p, 16, api.OK}, {"order 17", good, p, 17, api.ErrRange}, {"order -1", good, p, -1, api.ErrRange}, {"the least order", good, p, math.MinInt, api.ErrRange}, {"the greatest order", good, p, math.MaxInt, api.ErrRange},
		{"the order before the starts", wide, p, 17, api.ErrRange}, {"a start that is not exact", wide, p, 0, api.ErrNone}, {"such a start of what is not needed", wide, nil, 3, api.ErrNone},
		{"no system", api.System{}, api.Poly{{}}, -1, api.ErrEmpty},
	} {
		got, err := Series(row.s, row.order)
		if err != row.want || err != api.OK && got != nil {
			t.Errorf("Series: %s: got %v and the error %d, want %d", row.what, got, err, row.want)
		}
		list, err := Along(row.s, row.p, row.order)
		if err != row.want || err != api.OK && list != nil {
			t.Errorf("Along: %s: got %v and the error %d, want %d", row.what, list, err, row.want)
		}
	}
	list, err := Along(good, api.Poly{{}}, -1)
	expectList(t, "Along: the polynomial before the order", list, err, nil, api.ErrShape)
	nines := api.Rat(digits("9", 600))
	large := api.System{Names: []string{"x"}, Rates: []api.Poly{poly(t, "10 * x", "x")}, Start: []api.Span{{Low: nines, High: nines}}}
	series, err := Series(large, 0)
	if len(series) != 1 || err != api.OK || series[0][0] != nines {
		t.Errorf("Series with 600 digits: got %v and the error %d", series, err)
	}
	series, err = Series(large, 1)
	if series != nil || err != api.ErrLarge {
		t.Errorf("Series with 601 digits: got %v and the error %d", series, err)
	}
}
