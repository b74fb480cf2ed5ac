package exact

import (
	"math"
	"math/rand"
	"testing"

	"integraph/api"
)

// strange are arguments that are well-formed, nearly so, and not at all.
var (
	strangeInts  = []int{0, 1, 2, 3, -1, 12, 13, 24, 25, 64, 65, 256, math.MaxInt64, math.MinInt64}
	strangeRats  = []api.Rat{"0", "1", "-1", "1/2", "-3/7", "-0", "", "-", "/", "2/4", "1/0", "x", "1\x00", api.Rat(digits("9", 600)), api.Rat(digits("9", 601)), "1/" + api.Rat(digits("7", 600))}
	strangeTexts = []string{"", "-", ".", "/", "0", "-0/0", "1.", "1/", "\xff", "1/2/3", "..", digits("9", 4096), digits("1", 5000), digits("1", 2000) + "/" + digits("3", 2000), "1." + digits("3", 4000)}
)

func strange[T any](r *rand.Rand, list []T) T { return list[r.Intn(len(list))] }

func strangeRat(r *rand.Rand) api.Rat {
	if r.Intn(3) > 0 {
		return strange(r, strangeRats[:5])
	}
	return strange(r, strangeRats)
}

func strangeSpan(r *rand.Rand) api.Span { return span(strangeRat(r), strangeRat(r)) }

func strangePoly(r *rand.Rand, vars int) api.Poly {
	p := make(api.Poly, r.Intn(4))
	for i := range p {
		n := max(0, min(vars, 30)+1)
		if r.Intn(8) == 0 {
			n = r.Intn(30)
		}
		powers := make([]int, n)
		for v := range powers {
			powers[v] = r.Intn(3)
			if r.Intn(20) == 0 {
				powers[v] = strange(r, strangeInts)
			}
		}
		p[i] = api.Term{Factor: strangeRat(r), Powers: powers}
	}
	if q, e := Normal(p, vars); e == api.OK && r.Intn(4) > 0 {
		return q
	}
	return p
}

// TestAllArguments calls each function with strange arguments (P1): none panics, no result stands beside an error,
// and each result is well-formed.
func TestAllArguments(t *testing.T) {
	r := rand.New(rand.NewSource(21))
	number := func(a api.Rat, e api.Errno) {
		t.Helper()
		if e != api.OK && a != "" || e == api.OK && Check(a) != api.OK {
			t.Errorf("the number %q beside the error %d", a, e)
		}
	}
	spans := func(s api.Span, e api.Errno) {
		t.Helper()
		if e != api.OK && s != (api.Span{}) || e == api.OK && CheckSpan(s) != api.OK {
			t.Errorf("the span %v beside the error %d", s, e)
		}
	}
	for range 20000 {
		a, b, n, m := strangeRat(r), strangeRat(r), strange(r, strangeInts), strange(r, strangeInts)
		number(Of(n, m))
		number(Parse(strange(r, strangeTexts)))
		number(Parse(string(a)))
		number(Add(a, b))
		number(Sub(a, b))
		number(Mul(a, b))
		number(Div(a, b))
		number(Floor(a))
		number(Nearest(a, n))
		if i, e := Int(a); e != api.OK && i != 0 {
			t.Errorf("Int of %q: %d beside the error %d", a, i, e)
		}
		if i, e := Compare(a, b); e != api.OK && i != 0 {
			t.Errorf("Compare of %q and %q: %d beside the error %d", a, b, i, e)
		}
		IsName(strange(r, strangeTexts))
		s, o := strangeSpan(r), strangeSpan(r)
		spans(Outward(s, n))
		spans(AddSpans(s, o))
		spans(SubSpans(s, o))
		spans(MulSpans(s, o))
		spans(PowerSpan(s, n))
		spans(Hull([]api.Span{s, o, strangeSpan(r)}[:r.Intn(4)]))
		if is, e := Within(s, o); e != api.OK && is {
			t.Errorf("Within of %v and %v: true beside the error %d", s, o, e)
		}
	}
	for range 5000 {
		strangePolynomials(t, r)
	}
}

// strangePolynomials calls each function of polynomials once.
func strangePolynomials(t *testing.T, r *rand.Rand) {
	vars, newVars := strange(r, strangeInts[:6]), r.Intn(3)
	if r.Intn(8) == 0 {
		vars, newVars = strange(r, strangeInts), strange(r, strangeInts)
	}
	p, q := strangePoly(r, vars), strangePoly(r, vars)
	poly := func(p api.Poly, e api.Errno, vars int) {
		t.Helper()
		if e != api.OK && p != nil || e == api.OK && CheckPoly(p, vars) != api.OK {
			t.Errorf("the polynomial %v beside the error %d", p, e)
		}
	}
	results := []func() (api.Poly, api.Errno){
		func() (api.Poly, api.Errno) { return Normal(p, vars) },
		func() (api.Poly, api.Errno) { return AddPoly(p, q, vars) },
		func() (api.Poly, api.Errno) { return MulPoly(p, q, vars) },
		func() (api.Poly, api.Errno) { return ScalePoly(strangeRat(r), p, vars) },
		func() (api.Poly, api.Errno) { return DerivePoly(p, vars, strange(r, strangeInts)) },
	}
	for _, result := range results {
		got, e := result()
		poly(got, e, vars)
	}
	places := max(0, min(vars, 30)) + r.Intn(3)
	with, point, box := make([]api.Poly, places), make([]api.Rat, places), make([]api.Span, places)
	for i := range places {
		with[i], point[i], box[i] = strangePoly(r, newVars), strangeRat(r), strangeSpan(r)
	}
	got, e := Compose(p, vars, with, newVars)
	poly(got, e, newVars)
	if a, e := EvalPoly(p, point); e != api.OK && a != "" || e == api.OK && Check(a) != api.OK {
		t.Errorf("EvalPoly: %q beside the error %d", a, e)
	}
	if s, e := EvalSpans(p, box); e != api.OK && s != (api.Span{}) || e == api.OK && CheckSpan(s) != api.OK {
		t.Errorf("EvalSpans: %v beside the error %d", s, e)
	}
}
