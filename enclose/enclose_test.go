package enclose

import (
	"math/big"
	"math/rand"
	"slices"
	"strings"
	"testing"

	"integraph/api"
	"integraph/exact"
)

// digits returns a digit n times.
func digits(digit string, n int) api.Rat { return api.Rat(strings.Repeat(digit, n)) }

// expectError reports an error that is not the wanted one.
func expectError(t *testing.T, what string, got, want api.Errno) {
	t.Helper()
	if got != want {
		t.Errorf("%s: got the error %d, want %d", what, got, want)
	}
}

// expect reports a result, or an error, that is not the wanted one.
func expect[T comparable](t *testing.T, what string, got T, err api.Errno, want T, wantError api.Errno) {
	t.Helper()
	if got != want || err != wantError {
		t.Errorf("%s: got %v and the error %d, want %v and %d", what, got, err, want, wantError)
	}
}

// expectList reports a list, or an error, that is not the wanted one.
func expectList[T comparable](t *testing.T, what string, got []T, err api.Errno, want []T, wantError api.Errno) {
	t.Helper()
	if !slices.Equal(got, want) || err != wantError {
		t.Errorf("%s: got %v and the error %d, want %v and %d", what, got, err, want, wantError)
	}
}

// expectLists reports a list of lists, or an error, that is not the wanted one.
func expectLists[T comparable](t *testing.T, what string, got [][]T, err api.Errno, want [][]T, wantError api.Errno) {
	t.Helper()
	if !slices.EqualFunc(got, want, slices.Equal) || err != wantError {
		t.Errorf("%s: got %v and the error %d, want %v and %d", what, got, err, want, wantError)
	}
}

// expectTube reports a tube, or an error, that is not the wanted one.
func expectTube(t *testing.T, what string, got []api.Box, err api.Errno, want []api.Box, wantError api.Errno) {
	t.Helper()
	if !slices.EqualFunc(got, want, sameBox) || err != wantError {
		t.Errorf("%s: got %v and the error %d, want %v and %d", what, got, err, want, wantError)
	}
}

func sameBox(a, b api.Box) bool {
	return a.End == b.End && slices.Equal(a.Whole, b.Whole) && slices.Equal(a.Last, b.Last)
}

// must reports an error, and returns the result beside it.
func must[T any](t *testing.T) func(result T, err api.Errno) T {
	return func(result T, err api.Errno) T {
		t.Helper()
		expectError(t, "a call", err, api.OK)
		return result
	}
}

// box returns the spans with some ends, two for each of them.
func box(ends ...api.Rat) []api.Span {
	var list []api.Span
	for i := 0; i+1 < len(ends); i += 2 {
		list = append(list, api.Span{Low: ends[i], High: ends[i+1]})
	}
	return list
}

// span returns a span.
func span(low, high api.Rat) api.Span { return api.Span{Low: low, High: high} }

// term returns a term; the power of t is the first one.
func term(factor api.Rat, powers ...int) api.Term { return api.Term{Factor: factor, Powers: powers} }

// systemOf returns the system with some starts and rates.
func systemOf(start []api.Span, rates ...api.Poly) api.System {
	s := api.System{Rates: rates, Start: start}
	for i := range rates {
		s.Names = append(s.Names, "x"+strings.Repeat("'", i))
	}
	return s
}

// growth is the system x' = x with the start 1.
func growth() api.System { return systemOf(box("1", "1"), api.Poly{term("1", 0, 1)}) }

// square is the system x' = x^2 with the start 1.
func square() api.System { return systemOf(box("1", "1"), api.Poly{term("1", 0, 2)}) }

// still is the system x' = 0 with a start.
func still(low, high api.Rat) api.System { return systemOf(box(low, high), nil) }

// circle is the system x' = v, v' = -x with the start 1, 0.
func circle() api.System {
	return systemOf(box("1", "1", "0", "0"), api.Poly{term("1", 0, 0, 1)}, api.Poly{term("-1", 0, 1, 0)})
}

// energy is the first integral x^2 + v^2 of the circle.
func energy() api.Poly { return api.Poly{term("1", 0, 2, 0), term("1", 0, 0, 2)} }

// bigOf returns the number of the library.
func bigOf(a api.Rat) *big.Rat {
	x, ok := new(big.Rat).SetString(string(a))
	if !ok {
		panic("no number: " + string(a))
	}
	return x
}

// ratOf returns the number with a value of the library.
func ratOf(x *big.Rat) api.Rat { return api.Rat(x.RatString()) }

// someRat returns a small number.
func someRat(r *rand.Rand) api.Rat { return ratOf(big.NewRat(int64(r.Intn(13)-6), int64(1+r.Intn(5)))) }

// someSpan returns a span of small numbers, now and then of a single one.
func someSpan(r *rand.Rand) api.Span {
	a := someRat(r)
	wide := big.NewRat(int64(r.Intn(4)), int64(1+r.Intn(5)))
	return api.Span{Low: a, High: ratOf(wide.Add(wide, bigOf(a)))}
}

// someBox returns a box for n variables.
func someBox(r *rand.Rand, n int) []api.Span {
	list := make([]api.Span, n)
	for i := range list {
		list[i] = someSpan(r)
	}
	return list
}

// somePoly returns a polynomial in t and n variables with sums of powers up to most.
func somePoly(t *testing.T, r *rand.Rand, n, most int) api.Poly {
	t.Helper()
	terms := make([]api.Term, r.Intn(4))
	for i := range terms {
		powers := make([]int, n+1)
		for range r.Intn(most + 1) {
			powers[r.Intn(n+1)]++
		}
		terms[i] = api.Term{Factor: someRat(r), Powers: powers}
	}
	return must[api.Poly](t)(exact.Normal(terms, n))
}

// someSystem returns a system of 1 to 3 variables.
func someSystem(t *testing.T, r *rand.Rand) api.System {
	t.Helper()
	n := 1 + r.Intn(3)
	rates := make([]api.Poly, n)
	for i := range rates {
		rates[i] = somePoly(t, r, n, 3)
	}
	return systemOf(someBox(r, n), rates...)
}

// someEnds returns ends of steps of some length.
func someEnds(r *rand.Rand) []api.Rat {
	var ends []api.Rat
	end := new(big.Rat)
	for range 1 + r.Intn(3) {
		end = new(big.Rat).Add(end, big.NewRat(int64(1+r.Intn(3)), int64(1+r.Intn(40))))
		ends = append(ends, ratOf(end))
	}
	return ends
}

// copyOfTube returns a tube that shares no memory.
func copyOfTube(tube []api.Box) []api.Box {
	tube = slices.Clone(tube)
	for i, b := range tube {
		tube[i].Whole, tube[i].Last = slices.Clone(b.Whole), slices.Clone(b.Last)
	}
	return tube
}

// growthTube is the tube of growth with two steps of 1/2, of the order 1 and with 2 bits.
func growthTube() []api.Box {
	return []api.Box{
		{End: "1/2", Whole: box("1", "9/4"), Last: box("3/2", "2")},
		{End: "1", Whole: box("3/2", "17/4"), Last: box("9/4", "15/4")},
	}
}
