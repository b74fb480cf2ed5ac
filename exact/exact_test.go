package exact

import (
	"math/big"
	"math/rand"
	"slices"
	"strings"
	"testing"

	"integraph/api"
)

// digits returns a digit n times.
func digits(digit string, n int) string { return strings.Repeat(digit, n) }

// powerOfTen returns the number 10^n.
func powerOfTen(n int) api.Rat { return api.Rat("1" + digits("0", n)) }

func span(low, high api.Rat) api.Span { return api.Span{Low: low, High: high} }

func term(factor api.Rat, powers ...int) api.Term { return api.Term{Factor: factor, Powers: powers} }

// expect reports a result, or an error, that is not the wanted one.
func expect[T comparable](t *testing.T, what string, got T, e api.Errno, want T, wantError api.Errno) {
	t.Helper()
	if got != want || e != wantError {
		t.Errorf("%s: got %v and the error %d, want %v and %d", what, got, e, want, wantError)
	}
}

// expectError reports an error that is not the wanted one.
func expectError(t *testing.T, what string, got, want api.Errno) {
	t.Helper()
	if got != want {
		t.Errorf("%s: got the error %d, want %d", what, got, want)
	}
}

// expectPoly reports a polynomial, or an error, that is not the wanted one.
func expectPoly(t *testing.T, what string, got api.Poly, e api.Errno, want api.Poly, wantError api.Errno) {
	t.Helper()
	if !samePoly(got, want) || e != wantError {
		t.Errorf("%s: got %v and the error %d, want %v and %d", what, got, e, want, wantError)
	}
}

func samePoly(p, q api.Poly) bool {
	return slices.EqualFunc(p, q, func(a, b api.Term) bool {
		return a.Factor == b.Factor && slices.Equal(a.Powers, b.Powers)
	})
}

// somePoly returns a polynomial in some variables with small powers and factors.
func somePoly(t *testing.T, r *rand.Rand, vars int) api.Poly {
	t.Helper()
	terms := make([]api.Term, r.Intn(5))
	for i := range terms {
		powers := make([]int, vars+1)
		for v := range powers {
			powers[v] = r.Intn(3)
		}
		terms[i] = api.Term{Factor: someRat(r), Powers: powers}
	}
	p, e := Normal(terms, vars)
	expectError(t, "Normal", e, api.OK)
	expectError(t, "CheckPoly of a result", CheckPoly(p, vars), api.OK)
	return p
}

// someRat returns a small number.
func someRat(r *rand.Rand) api.Rat {
	return ratOf(big.NewRat(int64(r.Intn(41)-20), int64(1+r.Intn(9))))
}

// someSpan returns a span of small numbers.
func someSpan(r *rand.Rand) api.Span {
	a, b := someRat(r), someRat(r)
	if bigOf(a).Cmp(bigOf(b)) > 0 {
		a, b = b, a
	}
	return span(a, b)
}

// bigOf returns the number of the library.
func bigOf(a api.Rat) *big.Rat {
	x, ok := new(big.Rat).SetString(string(a))
	if !ok {
		panic("no number: " + string(a))
	}
	return x
}

// ratOf returns the number with a value of the library.
func ratOf(x *big.Rat) api.Rat { return api.Rat(x.RatString()) }
