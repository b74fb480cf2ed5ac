package exact

import (
	"math/rand"
	"testing"

	"integraph/api"
)

// The tests of this file are those of P1.4.

// must returns a result that has no error.
func must[T any](t *testing.T) func(result T, e api.Errno) T {
	return func(result T, e api.Errno) T {
		t.Helper()
		expectError(t, "a result", e, api.OK)
		return result
	}
}

// pointIn returns a point of a box: an end of each span, or a number inside.
func pointIn(t *testing.T, r *rand.Rand, box []api.Span) []api.Rat {
	rat := must[api.Rat](t)
	point := make([]api.Rat, len(box))
	for i, s := range box {
		part := []api.Rat{"0", "1", "1/2", "1/3", "6/7"}[r.Intn(5)]
		point[i] = rat(Add(s.Low, rat(Mul(part, rat(Sub(s.High, s.Low))))))
	}
	return point
}

func TestValuesAreInExtensions(t *testing.T) {
	r := rand.New(rand.NewSource(11))
	within, extension := must[bool](t), must[api.Span](t)
	for range 2000 {
		vars := r.Intn(3)
		p := somePoly(t, r, vars)
		box := make([]api.Span, vars+1)
		for i := range box {
			box[i] = someSpan(r)
		}
		values := extension(EvalSpans(p, box))
		value := must[api.Rat](t)(EvalPoly(p, pointIn(t, r, box)))
		bits := r.Intn(5)
		wider := extension(AddSpans(extension(Outward(values, bits)), span("-1/3", "0")))
		if !within(Within(span(value, value), values)) || !within(Within(values, wider)) || !within(Within(span(value, value), wider)) {
			t.Errorf("the value %s of %v on %v is not in %v", value, p, box, values)
		}
	}
}

func TestLawsOfPolynomials(t *testing.T) {
	r := rand.New(rand.NewSource(12))
	poly := must[api.Poly](t)
	for range 1000 {
		vars := r.Intn(3)
		p, q, s := somePoly(t, r, vars), somePoly(t, r, vars), somePoly(t, r, vars)
		add := func(a, b api.Poly) api.Poly { return poly(AddPoly(a, b, vars)) }
		mul := func(a, b api.Poly) api.Poly { return poly(MulPoly(a, b, vars)) }
		equal := func(what string, a, b api.Poly) {
			t.Helper()
			if !samePoly(a, b) {
				t.Errorf("%s: %v and %v for %v, %v and %v", what, a, b, p, q, s)
			}
		}
		equal("commutative sums", add(p, q), add(q, p))
		equal("associative sums", add(add(p, q), s), add(p, add(q, s)))
		equal("commutative products", mul(p, q), mul(q, p))
		equal("distributive", mul(p, add(q, s)), add(mul(p, q), mul(p, s)))
		if vars == 0 { // with more variables a product of three may be too large
			equal("associative products", mul(mul(p, q), s), mul(p, mul(q, s)))
		}
		c := someRat(r)
		constant := poly(Normal([]api.Term{{Factor: c, Powers: make([]int, vars+1)}}, vars))
		equal("a factor", poly(ScalePoly(c, p, vars)), mul(constant, p))
	}
}

func TestValuesOfSumsAndProducts(t *testing.T) {
	r := rand.New(rand.NewSource(13))
	poly, rat := must[api.Poly](t), must[api.Rat](t)
	for range 1000 {
		vars := r.Intn(3)
		p, q := somePoly(t, r, vars), somePoly(t, r, vars)
		point := make([]api.Rat, vars+1)
		for i := range point {
			point[i] = someRat(r)
		}
		value := func(p api.Poly) api.Rat { return rat(EvalPoly(p, point)) }
		if value(poly(AddPoly(p, q, vars))) != rat(Add(value(p), value(q))) {
			t.Errorf("the value of the sum of %v and %v at %v", p, q, point)
		}
		if value(poly(MulPoly(p, q, vars))) != rat(Mul(value(p), value(q))) {
			t.Errorf("the value of the product of %v and %v at %v", p, q, point)
		}
	}
}

func TestRulesOfDerivatives(t *testing.T) {
	r := rand.New(rand.NewSource(14))
	poly := must[api.Poly](t)
	for range 500 {
		vars := r.Intn(3)
		p, q := somePoly(t, r, vars), somePoly(t, r, vars)
		v, w := r.Intn(vars+1), r.Intn(vars+1)
		derive := func(p api.Poly, v int) api.Poly { return poly(DerivePoly(p, vars, v)) }
		product := derive(poly(MulPoly(p, q, vars)), v)
		rule := poly(AddPoly(poly(MulPoly(derive(p, v), q, vars)), poly(MulPoly(p, derive(q, v), vars)), vars))
		if !samePoly(product, rule) {
			t.Errorf("the derivative of the product of %v and %v: %v and %v", p, q, product, rule)
		}
		if !samePoly(derive(derive(p, v), w), derive(derive(p, w), v)) {
			t.Errorf("the order of the derivatives of %v by %d and %d", p, v, w)
		}
	}
}

// TestRuleOfChains derives a composition in two variables with respect to one of them.
func TestRuleOfChains(t *testing.T) {
	r := rand.New(rand.NewSource(15))
	poly := must[api.Poly](t)
	for range 300 {
		p := somePoly(t, r, 1)
		with := []api.Poly{somePoly(t, r, 1), somePoly(t, r, 1)}
		v := r.Intn(2)
		composed, e := Compose(p, 1, with, 1)
		if e != api.OK { // too large
			continue
		}
		var rule api.Poly
		for i := range with {
			outer := poly(Compose(poly(DerivePoly(p, 1, i)), 1, with, 1))
			rule = poly(AddPoly(rule, poly(MulPoly(outer, poly(DerivePoly(with[i], 1, v)), 1)), 1))
		}
		if got := poly(DerivePoly(composed, 1, v)); !samePoly(got, rule) {
			t.Errorf("the derivative of %v with %v: %v and %v", p, with, got, rule)
		}
	}
}

func TestCompositionsHaveTheValuesAtTheValues(t *testing.T) {
	r := rand.New(rand.NewSource(16))
	rat := must[api.Rat](t)
	composed := 0
	for range 1000 {
		vars, newVars := r.Intn(3), r.Intn(3)
		p := somePoly(t, r, vars)
		with := make([]api.Poly, vars+1)
		for i := range with {
			with[i] = somePoly(t, r, newVars)
		}
		point := make([]api.Rat, newVars+1)
		for i := range point {
			point[i] = someRat(r)
		}
		values := make([]api.Rat, len(with))
		for i, q := range with {
			values[i] = rat(EvalPoly(q, point))
		}
		q, e := Compose(p, vars, with, newVars)
		if e != api.OK { // too large
			continue
		}
		composed++
		if got, want := rat(EvalPoly(q, point)), rat(EvalPoly(p, values)); got != want {
			t.Errorf("the value of %v with %v at %v: got %s, want %s", p, with, point, got, want)
		}
	}
	if composed < 300 {
		t.Errorf("only %d compositions are not too large", composed)
	}
}

func TestRoundingKeepsTheOrder(t *testing.T) {
	r := rand.New(rand.NewSource(17))
	rat, order, spans := must[api.Rat](t), must[int](t), must[api.Span](t)
	for range 3000 {
		s, bits := someSpan(r), r.Intn(5)
		if order(Compare(rat(Nearest(s.Low, bits)), rat(Nearest(s.High, bits)))) > 0 {
			t.Errorf("Nearest of %v with %d bits", s, bits)
		}
		low, high := spans(Outward(span(s.Low, s.Low), bits)), spans(Outward(span(s.High, s.High), bits))
		if order(Compare(low.Low, high.Low)) > 0 || order(Compare(low.High, high.High)) > 0 {
			t.Errorf("Outward of %v with %d bits", s, bits)
		}
		near := rat(Nearest(s.Low, bits))
		if near != low.Low && near != low.High {
			t.Errorf("Nearest of %s with %d bits is %s, which is not an end of %v", s.Low, bits, near, low)
		}
	}
}
