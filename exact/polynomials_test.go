package exact

import (
	"math"
	"math/big"
	"math/rand"
	"slices"
	"strconv"
	"testing"

	"integraph/api"
)

// The tests of this file are those of P1.3.

// line returns the sum of t and some variables, t first.
func line(vars int) api.Poly {
	p := make(api.Poly, vars+1)
	for v := range p {
		powers := make([]int, vars+1)
		powers[v] = 1
		p[v] = api.Term{Factor: "1", Powers: powers}
	}
	return p
}

// grid returns different terms in two variables: as many as are wanted, 64 at most, in order.
func grid(terms int) api.Poly {
	var p api.Poly
	for sum := 12; sum >= 0; sum-- {
		for power := sum; power >= 0; power-- {
			if len(p) < terms {
				p = append(p, term("1", power, sum-power))
			}
		}
	}
	return p
}

// each returns the terms of a polynomial as polynomials.
func each(p api.Poly) []api.Poly {
	var list []api.Poly
	for i := range p {
		list = append(list, p[i:i+1])
	}
	return list
}

// example is 2 x^2 - 3 t + 1.
func example() api.Poly { return api.Poly{term("2", 0, 2), term("-3", 1, 0), term("1", 0, 0)} }

func TestCheckPoly(t *testing.T) {
	large := api.Rat(digits("9", 601))
	widest := make([]int, api.MaxVars+1)
	for _, row := range []struct {
		what string
		p    api.Poly
		vars int
		want api.Errno
	}{
		{"a polynomial", example(), 1, api.OK}, {"nothing", nil, 0, api.OK}, {"nothing in 24 variables", api.Poly{}, 24, api.OK},
		{"24 variables", api.Poly{api.Term{Factor: "1", Powers: widest}}, 24, api.OK}, {"64 terms", grid(64), 1, api.OK}, {"65 terms", grid(65), 1, api.ErrMany},
		{"-1 variables", example(), -1, api.ErrRange}, {"25 variables", example(), 25, api.ErrRange}, {"the least number of variables", nil, math.MinInt64, api.ErrRange},
		{"-1 variables and 65 terms", grid(65), -1, api.ErrRange}, {"65 bad terms", make(api.Poly, 65), 1, api.ErrMany},
		{"too few powers", example(), 2, api.ErrShape}, {"too many powers", example(), 0, api.ErrShape}, {"no powers", api.Poly{term("1")}, 0, api.ErrShape},
		{"no powers of a bad factor", api.Poly{term("x")}, 0, api.ErrShape},
		{"a negative power", api.Poly{term("x", 13, -1)}, 1, api.ErrRange}, {"the least power", api.Poly{term("1", math.MinInt64)}, 0, api.ErrRange},
		{"the power 12", api.Poly{term("1", 6, 6)}, 1, api.OK}, {"the power 13", api.Poly{term("x", 6, 7)}, 1, api.ErrLarge},
		{"the greatest powers", api.Poly{term("1", math.MaxInt64, math.MaxInt64, 2)}, 2, api.ErrLarge}, {"the power 256", api.Poly{term("1", 256)}, 0, api.ErrLarge},
		{"a bad factor", api.Poly{term("2/2", 1)}, 0, api.ErrForm}, {"no factor", api.Poly{term("", 1)}, 0, api.ErrForm}, {"a large factor", api.Poly{term(large, 1)}, 0, api.ErrLarge},
		{"the factor 0", api.Poly{term("0", 1, 0)}, 1, api.ErrZero}, {"the factor -0", api.Poly{term("-0", 1, 0)}, 1, api.ErrForm},
		{"a wrong order", api.Poly{term("1", 0, 1), term("1", 1, 0)}, 1, api.ErrOrder}, {"a lesser sum first", api.Poly{term("1", 1, 0), term("1", 0, 2)}, 1, api.ErrOrder},
		{"a term twice", api.Poly{term("1", 1, 0), term("2", 1, 0)}, 1, api.ErrOrder}, {"a constant twice", api.Poly{term("1", 0), term("1", 0)}, 0, api.ErrOrder},
		{"0 in a wrong place", api.Poly{term("1", 0, 1), term("0", 1, 0)}, 1, api.ErrZero}, {"the first error", api.Poly{term("1", 0), term("1", 1), term("x", 1)}, 0, api.ErrOrder},
	} {
		expectError(t, "CheckPoly: "+row.what, CheckPoly(row.p, row.vars), row.want)
	}
}

func TestNormal(t *testing.T) {
	got, e := Normal([]api.Term{term("1", 0, 0), term("5", 1, 0), term("2", 0, 2), term("-8", 1, 0), term("0", 1, 1)}, 1)
	expectPoly(t, "Normal", got, e, example(), api.OK)
	got, e = Normal([]api.Term{term("1/2", 1), term("-1/3", 1), term("-1/6", 1)}, 0)
	expectPoly(t, "a sum that is 0", got, e, nil, api.OK)
	got, e = Normal(nil, 24)
	expectPoly(t, "no terms", got, e, nil, api.OK)
	got, e = Normal(slices.Repeat([]api.Term{term("1/2", 12)}, 256), 0)
	expectPoly(t, "256 terms", got, e, api.Poly{term("128", 12)}, api.OK)
	got, e = Normal(grid(64), 1)
	expectPoly(t, "64 different terms", got, e, grid(64), api.OK)
	full := api.Rat(digits("9", 600))
	for _, row := range []struct {
		what  string
		terms []api.Term
		vars  int
		want  api.Errno
	}{
		{"-1 variables", nil, -1, api.ErrRange}, {"25 variables and 257 terms", make([]api.Term, 257), 25, api.ErrRange}, {"257 terms", make([]api.Term, 257), 1, api.ErrMany},
		{"65 different terms", grid(65), 1, api.ErrMany}, {"a shape", []api.Term{term("x", 1)}, 1, api.ErrShape}, {"a power", []api.Term{term("x", -1, 14)}, 1, api.ErrRange},
		{"a sum of powers", []api.Term{term("x", 1, 12)}, 1, api.ErrLarge}, {"a factor", []api.Term{term("0", 1), term("3/3", 1)}, 0, api.ErrForm},
		{"a large factor", []api.Term{term("9"+full, 1)}, 0, api.ErrLarge}, {"the first error", []api.Term{term("x", 0), term("1")}, 0, api.ErrForm},
		{"a large sum", []api.Term{term(full, 1), term("1", 1)}, 0, api.ErrLarge},
		{"many terms, one of them large", append(grid(65), term(full, 12, 0)), 1, api.ErrMany},
	} {
		got, e := Normal(row.terms, row.vars)
		expectPoly(t, "Normal with "+row.what, got, e, nil, row.want)
	}
	got, e = Normal([]api.Term{term(full, 1), term("1", 1), term("-2", 1)}, 0)
	expectPoly(t, "a sum that is large on the way", got, e, api.Poly{term(api.Rat(digits("9", 599)+"8"), 1)}, api.OK)
}

func TestAddPoly(t *testing.T) {
	p := example()
	minus, _ := ScalePoly("-1", p, 1)
	got, e := AddPoly(p, minus, 1)
	expectPoly(t, "a sum that is 0", got, e, nil, api.OK)
	got, e = AddPoly(p, api.Poly{term("3", 1, 0), term("1/2", 0, 0)}, 1)
	expectPoly(t, "a sum", got, e, api.Poly{term("2", 0, 2), term("3/2", 0, 0)}, api.OK)
	got, e = AddPoly(nil, p, 1)
	expectPoly(t, "0 and a polynomial", got, e, p, api.OK)
	got, e = AddPoly(grid(64), grid(65)[64:], 1)
	expectPoly(t, "65 terms", got, e, nil, api.ErrMany)
	full := api.Rat(digits("9", 600))
	got, e = AddPoly(api.Poly{term(full, 1)}, api.Poly{term("1", 1)}, 0)
	expectPoly(t, "a large factor", got, e, nil, api.ErrLarge)
	checkTwoPolys(t, "AddPoly", AddPoly)
}

// checkTwoPolys tests the errors of the arguments.
func checkTwoPolys(t *testing.T, what string, operation func(a, b api.Poly, vars int) (api.Poly, api.Errno)) {
	t.Helper()
	zero := api.Poly{term("0", 0)}
	form := api.Poly{term("x", 0)}
	for _, row := range []struct {
		a, b api.Poly
		vars int
		want api.Errno
	}{
		{zero, form, -1, api.ErrRange}, {zero, form, 25, api.ErrRange}, {zero, form, 0, api.ErrZero}, {form, zero, 0, api.ErrForm}, {nil, zero, 0, api.ErrZero},
		{nil, nil, 24, api.OK}, {zero, nil, 1, api.ErrShape},
	} {
		got, e := operation(row.a, row.b, row.vars)
		expectPoly(t, what, got, e, nil, row.want)
	}
}

func TestMulPoly(t *testing.T) {
	got, e := MulPoly(line(1), line(1), 1)
	expectPoly(t, "a square", got, e, api.Poly{term("1", 2, 0), term("2", 1, 1), term("1", 0, 2)}, api.OK)
	got, e = MulPoly(example(), nil, 1)
	expectPoly(t, "0", got, e, nil, api.OK)
	got, e = MulPoly(api.Poly{term("1/2", 12)}, api.Poly{term("2/3", 0)}, 0)
	expectPoly(t, "the power 12", got, e, api.Poly{term("1/3", 12)}, api.OK)
	got, e = MulPoly(api.Poly{term("1", 0, 7)}, api.Poly{term("1", 6, 0)}, 1)
	expectPoly(t, "the power 13", got, e, nil, api.ErrLarge)
	got, e = MulPoly(grid(64), grid(64), 1)
	expectPoly(t, "many terms of high powers", got, e, nil, api.ErrLarge)
	got, e = MulPoly(line(23), line(23), 23)
	expectPoly(t, "300 terms", got, e, nil, api.ErrMany)
	big := powerOfTen(400)
	got, e = MulPoly(api.Poly{term(big, 1), term("1", 0)}, api.Poly{term(big, 1), term("-1", 0)}, 0)
	expectPoly(t, "a large factor", got, e, nil, api.ErrLarge)
	got, e = MulPoly(api.Poly{term(big, 0, 1), term("1/"+big, 0, 0)}, api.Poly{term("1/"+big, 0, 1), term("-1/"+big+"1", 0, 0)}, 1)
	expectPoly(t, "a large denominator", got, e, nil, api.ErrLarge)
	// The factors of t x are 10^900 and its opposite: they cancel each other.
	a := api.Poly{term(powerOfTen(450), 1, 0), term(powerOfTen(150), 0, 1)}
	b := api.Poly{term("1/"+powerOfTen(150), 1, 0), term("-1/"+powerOfTen(450), 0, 1)}
	got, e = MulPoly(a, b, 1)
	expectPoly(t, "what cancels", got, e, api.Poly{term(powerOfTen(300), 2, 0), term("-1/"+powerOfTen(300), 0, 2)}, api.OK)
	got, e = MulPoly(line(23), append(line(23), term("1", make([]int, 24)...)), 23)
	expectPoly(t, "more terms", got, e, nil, api.ErrMany)
	got, e = MulPoly(append(grid(64), term("1", 0, 0)), nil, 1)
	expectPoly(t, "an argument with 65 terms", got, e, nil, api.ErrMany)
	checkTwoPolys(t, "MulPoly", MulPoly)
}

func TestScalePoly(t *testing.T) {
	got, e := ScalePoly("-1/2", example(), 1)
	expectPoly(t, "a half", got, e, api.Poly{term("-1", 0, 2), term("3/2", 1, 0), term("-1/2", 0, 0)}, api.OK)
	got, e = ScalePoly("0", example(), 1)
	expectPoly(t, "0 times", got, e, nil, api.OK)
	got, e = ScalePoly("1", grid(64), 1)
	expectPoly(t, "64 terms", got, e, grid(64), api.OK)
	zero := api.Poly{term("0", 0)}
	for _, row := range []struct {
		c    api.Rat
		p    api.Poly
		vars int
		want api.Errno
	}{
		{"x", zero, -1, api.ErrRange}, {"x", zero, 25, api.ErrRange}, {"x", zero, 0, api.ErrForm}, {"1", zero, 0, api.ErrZero}, {"0", zero, 0, api.ErrZero},
		{powerOfTen(300), api.Poly{term(powerOfTen(300), 0)}, 0, api.ErrLarge}, {"9" + powerOfTen(600)[1:], nil, 0, api.ErrLarge},
	} {
		got, e := ScalePoly(row.c, row.p, row.vars)
		expectPoly(t, "ScalePoly", got, e, nil, row.want)
	}
}

func TestDerivePoly(t *testing.T) {
	got, e := DerivePoly(example(), 1, 1)
	expectPoly(t, "by x", got, e, api.Poly{term("4", 0, 1)}, api.OK)
	got, e = DerivePoly(example(), 1, 0)
	expectPoly(t, "by t", got, e, api.Poly{term("-3", 0, 0)}, api.OK)
	got, e = DerivePoly(api.Poly{term("1/12", 12, 0), term("1", 0, 3)}, 1, 0)
	expectPoly(t, "the power 12", got, e, api.Poly{term("1", 11, 0)}, api.OK)
	got, e = DerivePoly(nil, 24, 24)
	expectPoly(t, "of 0", got, e, nil, api.OK)
	for _, row := range []struct {
		p       api.Poly
		vars, v int
		want    api.Errno
	}{
		{nil, -1, 0, api.ErrRange}, {nil, 25, 25, api.ErrRange}, {api.Poly{term("0", 0)}, 0, 1, api.ErrZero}, {example(), 1, 2, api.ErrUnknown},
		{example(), 1, -1, api.ErrUnknown}, {example(), 1, math.MinInt64, api.ErrUnknown}, {example(), 1, math.MaxInt64, api.ErrUnknown},
		{api.Poly{term(api.Rat(digits("9", 600)), 2)}, 0, 0, api.ErrLarge},
	} {
		got, e := DerivePoly(row.p, row.vars, row.v)
		expectPoly(t, "DerivePoly", got, e, nil, row.want)
	}
}

func TestCompose(t *testing.T) {
	square := api.Poly{term("1", 0, 2), term("1", 1, 0)} // x^2 + t
	got, e := Compose(square, 1, []api.Poly{{term("1", 0)}, {term("1", 1), term("-1", 0)}}, 0)
	expectPoly(t, "the example", got, e, api.Poly{term("1", 2), term("-2", 1), term("2", 0)}, api.OK)
	got, e = Compose(nil, 2, []api.Poly{nil, nil, nil}, 5)
	expectPoly(t, "0", got, e, nil, api.OK)
	got, e = Compose(square, 1, []api.Poly{nil, nil}, 0)
	expectPoly(t, "0 for all", got, e, nil, api.OK)
	got, e = Compose(api.Poly{term("1/3", 12), term("5", 0)}, 0, []api.Poly{nil}, 0)
	expectPoly(t, "the constant term", got, e, api.Poly{term("5", 0)}, api.OK)
	got, e = Compose(grid(64), 1, each(line(1)), 1)
	expectPoly(t, "what it was", got, e, grid(64), api.OK)
	got, e = Compose(api.Poly{term("1", 12)}, 0, []api.Poly{{term("1", 1), term("1", 0)}}, 0)
	binomial := make(api.Poly, 13)
	for k := range binomial {
		factor := new(big.Int).Binomial(12, int64(k))
		binomial[k] = term(api.Rat(factor.String()), 12-k)
	}
	expectPoly(t, "the power 12 of a sum", got, e, binomial, api.OK)
}

func TestComposeErrors(t *testing.T) {
	zero := api.Poly{term("0", 0)}
	one := api.Poly{term("1", 0)}
	twelve := api.Poly{term("1", 12)}
	for _, row := range []struct {
		what    string
		p       api.Poly
		vars    int
		with    []api.Poly
		newVars int
		want    api.Errno
	}{
		{"vars", zero, -1, nil, -1, api.ErrRange}, {"newVars", zero, 0, nil, 25, api.ErrRange}, {"both", zero, 25, nil, 25, api.ErrRange}, {"the polynomial", zero, 0, nil, 0, api.ErrZero},
		{"too few", twelve, 0, nil, 0, api.ErrShape}, {"too many", twelve, 0, []api.Poly{zero, zero}, 0, api.ErrShape}, {"one of them", api.Poly{term("1", 1, 0)}, 1, []api.Poly{one, zero}, 0, api.ErrZero},
		{"the first one", api.Poly{term("1", 1, 0)}, 1, []api.Poly{{term("1")}, zero}, 0, api.ErrShape}, {"other variables", twelve, 0, []api.Poly{twelve}, 1, api.ErrShape},
		{"an unused one", nil, 0, []api.Poly{zero}, 0, api.ErrZero}, {"the power 144", twelve, 0, []api.Poly{twelve}, 0, api.ErrLarge},
		{"the power 13", api.Poly{term("1", 0, 2), term("1", 1, 0)}, 1, []api.Poly{one, {term("1", 7), term("1", 6)}}, 0, api.ErrLarge},
		{"a large factor", twelve, 0, []api.Poly{{term(powerOfTen(50), 1)}}, 0, api.ErrLarge}, {"a large constant", twelve, 0, []api.Poly{{term("1/"+powerOfTen(50), 0)}}, 0, api.ErrLarge},
		// These have more terms than a memory.
		{"the power 12 of 25 terms", twelve, 0, []api.Poly{line(24)}, 24, api.ErrMany},
		{"the power 12 of 64 terms", twelve, 0, []api.Poly{grid(64)}, 1, api.ErrLarge},
	} {
		got, e := Compose(row.p, row.vars, row.with, row.newVars)
		expectPoly(t, "Compose: "+row.what, got, e, nil, row.want)
	}
}

// TestComposeCancels has powers, terms and factors on the way that are too large for a result.
func TestComposeCancels(t *testing.T) {
	power := func(n int) api.Poly { return api.Poly{term("1", n)} }
	// a^2 - b c + d
	p := api.Poly{term("1", 2, 0, 0, 0), term("-1", 0, 1, 1, 0), term("1", 0, 0, 0, 1)}
	got, e := Compose(p, 3, []api.Poly{power(7), power(8), power(6), power(1)}, 0)
	expectPoly(t, "high powers cancel", got, e, power(1), api.OK)
	got, e = Compose(p, 3, []api.Poly{line(23), line(23), line(23), line(23)[:1]}, 23)
	expectPoly(t, "many terms cancel", got, e, line(23)[:1], api.OK)
	got, e = Compose(p, 3, []api.Poly{line(23), line(23), line(23)[1:], nil}, 23)
	product, _ := MulPoly(line(23), line(23)[:1], 23)
	expectPoly(t, "all but 24 terms cancel", got, e, product, api.OK)
	large := api.Poly{term(powerOfTen(500), 0)}
	got, e = Compose(p, 3, []api.Poly{large, large, large, power(0)}, 0)
	expectPoly(t, "large factors cancel", got, e, power(0), api.OK)
	many := api.Poly{term("1", 12, 0), term("-1", 0, 6)} // a^12 - b^6
	square, _ := MulPoly(line(3), line(3), 3)
	got, e = Compose(many, 1, []api.Poly{line(3), square}, 3)
	expectPoly(t, "all terms of high powers cancel", got, e, nil, api.OK)
}

func TestEvalPoly(t *testing.T) {
	zero := api.Poly{term("0", 0)}
	big := powerOfTen(599)
	for _, row := range []struct {
		what  string
		p     api.Poly
		point []api.Rat
		want  api.Rat
		e     api.Errno
	}{
		{"a value", example(), []api.Rat{"2", "1/2"}, "-9/2", api.OK}, {"a value at 0", example(), []api.Rat{"0", "0"}, "1", api.OK}, {"0", nil, []api.Rat{"7"}, "0", api.OK},
		{"a constant", api.Poly{term("5", 0)}, []api.Rat{"0"}, "5", api.OK}, {"25 numbers", nil, slices.Repeat([]api.Rat{"1"}, 25), "0", api.OK},
		{"a large number on the way", api.Poly{term("1", 12, 0), term("-1", 0, 12), term("1", 1, 0)}, []api.Rat{big, big}, big, api.OK},
		{"a large value", api.Poly{term("1", 2)}, []api.Rat{powerOfTen(300)}, "", api.ErrLarge}, {"a small value", api.Poly{term("1", 2)}, []api.Rat{"1/" + powerOfTen(300)}, "", api.ErrLarge},
		{"no point", zero, nil, "", api.ErrShape}, {"26 numbers", zero, slices.Repeat([]api.Rat{"x"}, 26), "", api.ErrMany}, {"another shape", example(), []api.Rat{"x"}, "", api.ErrShape},
		{"a bad polynomial", zero, []api.Rat{"x"}, "", api.ErrZero}, {"a bad number", example(), []api.Rat{"2", "2/4"}, "", api.ErrForm}, {"the first bad number", example(), []api.Rat{"9" + big + "9", "x"}, "", api.ErrLarge},
	} {
		got, e := EvalPoly(row.p, row.point)
		expect(t, "EvalPoly: "+row.what, got, e, row.want, row.e)
	}
}

func TestEvalSpans(t *testing.T) {
	zero := api.Poly{term("0", 0)}
	big := powerOfTen(300)
	box := []api.Span{span("0", "1"), span("-1", "1")}
	for _, row := range []struct {
		what string
		p    api.Poly
		box  []api.Span
		want api.Span
		e    api.Errno
	}{
		{"independent terms", api.Poly{term("1", 0, 2), term("-1", 0, 1)}, []api.Span{span("0", "9"), span("0", "1")}, span("-1", "1"), api.OK},
		{"a square", api.Poly{term("1", 0, 2)}, box, span("0", "1"), api.OK}, {"a square and a variable", api.Poly{term("2", 1, 2)}, box, span("0", "2"), api.OK},
		{"a product", api.Poly{term("1", 1, 2)}, []api.Span{span("-1", "1"), span("-2", "1")}, span("-4", "4"), api.OK},
		{"a negative factor", api.Poly{term("-1/2", 0, 1)}, []api.Span{span("0", "1"), span("-1", "3")}, span("-3/2", "1/2"), api.OK},
		{"a table that squares 2 t - x", api.Poly{term("4", 2, 0), term("-4", 1, 1), term("1", 0, 2)}, box, span("-4", "9"), api.OK},
		{"0", nil, box, span("0", "0"), api.OK}, {"a constant", api.Poly{term("1/3", 0, 0)}, box, span("1/3", "1/3"), api.OK},
		{"a large end", api.Poly{term("1", 2)}, []api.Span{span("-"+big, "0")}, api.Span{}, api.ErrLarge}, {"a large low end", api.Poly{term("1", 3)}, []api.Span{span("-"+big, "0")}, api.Span{}, api.ErrLarge},
		{"large numbers on the way", api.Poly{term("1", 2, 0), term("-1", 0, 2), term("1", 0, 0)}, []api.Span{span(big, big), span(big, big)}, span("1", "1"), api.OK},
		{"no box", zero, nil, api.Span{}, api.ErrShape}, {"26 spans", zero, make([]api.Span, 26), api.Span{}, api.ErrMany}, {"25 spans", zero, make([]api.Span, 25), api.Span{}, api.ErrShape},
		{"a bad polynomial", zero, box[:1], api.Span{}, api.ErrZero}, {"a bad polynomial and a bad box", zero, []api.Span{span("1", "0")}, api.Span{}, api.ErrZero},
		{"the first bad span", example(), []api.Span{span("1", "0"), span("x", "0")}, api.Span{}, api.ErrOrder}, {"a bad span that does not matter", nil, []api.Span{span("1", "")}, api.Span{}, api.ErrForm},
	} {
		got, e := EvalSpans(row.p, row.box)
		expect(t, "EvalSpans: "+row.what, got, e, row.want, row.e)
	}
}

// TestNothingIsShared changes results, and looks at the arguments and at other results.
func TestNothingIsShared(t *testing.T) {
	p := example()
	var results []api.Poly
	keep := func(q api.Poly, e api.Errno) {
		expectPoly(t, "a copy", q, e, example(), api.OK)
		results = append(results, q)
	}
	identity := []api.Poly{{term("1", 1, 0)}, {term("1", 0, 1)}}
	keep(AddPoly(p, nil, 1))
	keep(AddPoly(nil, p, 1))
	keep(MulPoly(p, api.Poly{term("1", 0, 0)}, 1))
	keep(ScalePoly("1", p, 1))
	keep(Normal(p, 1))
	keep(Compose(p, 1, identity, 1))
	for i, q := range results {
		for j := range q {
			q[j].Factor = "7"
			q[j].Powers[0] = 7
			_ = append(q[j].Powers, 8)
			q[j].Powers[1] = i
		}
	}
	for i, q := range results {
		for _, a := range q {
			if a.Powers[1] != i {
				t.Errorf("the result %d shares its powers", i)
			}
		}
	}
	expectPoly(t, "an argument", p, api.OK, example(), api.OK)
	expectPoly(t, "a list of arguments", identity[0], api.OK, api.Poly{term("1", 1, 0)}, api.OK)
}

// model returns the factors of a polynomial by the texts of their powers.
func model(p api.Poly) map[string]*big.Rat {
	m := map[string]*big.Rat{}
	for _, a := range p {
		m[key(a.Powers)] = bigOf(a.Factor)
	}
	return m
}

func key(powers []int) string {
	s := ""
	for _, n := range powers {
		s += strconv.Itoa(n) + " "
	}
	return s
}

// expectModel reports a polynomial with other terms than a model has.
func expectModel(t *testing.T, what string, p api.Poly, e api.Errno, want map[string]*big.Rat) {
	t.Helper()
	expectError(t, what, e, api.OK)
	got := model(p)
	for k, factor := range want {
		if factor.Sign() != 0 && (got[k] == nil || got[k].Cmp(factor) != 0) {
			t.Errorf("%s: the factor of %s is %v, not %v", what, k, got[k], factor)
		}
		delete(got, k)
	}
	if len(got) > 0 {
		t.Errorf("%s: further terms %v", what, got)
	}
}

// TestRandomPolynomials compares sums, products and derivatives with those of a simple model.
func TestRandomPolynomials(t *testing.T) {
	r := rand.New(rand.NewSource(3))
	for range 1000 {
		vars := r.Intn(3)
		p, q := somePoly(t, r, vars), somePoly(t, r, vars)
		sum := model(p)
		for k, factor := range model(q) {
			if sum[k] == nil {
				sum[k] = new(big.Rat)
			}
			sum[k].Add(sum[k], factor)
		}
		got, e := AddPoly(p, q, vars)
		expectModel(t, "AddPoly", got, e, sum)
		product := map[string]*big.Rat{}
		for _, a := range p {
			for _, b := range q {
				powers := slices.Clone(a.Powers)
				for v := range powers {
					powers[v] += b.Powers[v]
				}
				k := key(powers)
				if product[k] == nil {
					product[k] = new(big.Rat)
				}
				product[k].Add(product[k], new(big.Rat).Mul(bigOf(a.Factor), bigOf(b.Factor)))
			}
		}
		got, e = MulPoly(p, q, vars)
		expectModel(t, "MulPoly", got, e, product)
		v := r.Intn(vars + 1)
		derivative := map[string]*big.Rat{}
		for _, a := range p {
			if n := a.Powers[v]; n > 0 {
				powers := slices.Clone(a.Powers)
				powers[v]--
				derivative[key(powers)] = new(big.Rat).Mul(bigOf(a.Factor), big.NewRat(int64(n), 1))
			}
		}
		got, e = DerivePoly(p, vars, v)
		expectModel(t, "DerivePoly", got, e, derivative)
	}
}
