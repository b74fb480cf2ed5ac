package enclose

import (
	"math/big"
	"math/rand"
	"testing"

	"integraph/api"
	"integraph/generate"
)

// The tests of this file are those of P8.1.

func TestCheckBox(t *testing.T) {
	two := circle()
	for _, row := range []struct {
		what string
		s    api.System
		box  []api.Span
		want api.Errno
	}{
		{"a box", two, box("1", "2", "-1/2", "-1/2"), api.OK}, {"a box that is not around the start", two, box("7", "8", "7", "8"), api.OK},
		{"no box", two, nil, api.ErrShape}, {"a span", two, box("1", "2"), api.ErrShape}, {"three spans", two, box("1", "2", "1", "2", "1", "2"), api.ErrShape},
		{"three spans with errors", two, box("x", "2", "1", "2", "1", "2"), api.ErrShape},
		{"no number", two, box("1", "2", "1", ""), api.ErrForm}, {"a wrong order", two, box("2", "1", "1", "2"), api.ErrOrder}, {"long digits", two, box("1", "2", "1", digits("9", 601)), api.ErrLarge},
		{"the first error", two, box("2", "1", "x", "2"), api.ErrOrder}, {"the first error of a span", two, box(digits("9", 601), "x", "1", "2"), api.ErrLarge}, {"not in lowest terms", two, box("2/4", "2", "1", "2"), api.ErrForm},
		{"no system", api.System{}, nil, api.ErrEmpty}, {"a wrong system", api.System{Names: []string{"?"}, Rates: make([]api.Poly, 1), Start: box("1", "1")}, nil, api.ErrName}, {"a system without starts", api.System{Names: []string{"x"}, Rates: make([]api.Poly, 1)}, nil, api.ErrShape},
	} {
		expectError(t, "CheckBox: "+row.what, CheckBox(row.s, row.box), row.want)
	}
}

func TestSeries(t *testing.T) {
	zero := span("0", "0")
	got, err := Series(growth(), zero, box("1", "1"), 2)
	expectLists(t, "Series at a point", got, err, [][]api.Span{box("1", "1", "1", "1", "1/2", "1/2")}, api.OK)
	got, err = Series(growth(), zero, box("1", "2"), 2)
	expectLists(t, "Series at a span", got, err, [][]api.Span{box("1", "2", "1", "2", "1/2", "1")}, api.OK)
	got, err = Series(circle(), zero, box("1", "1", "0", "0"), 4)
	expectLists(t, "Series of the circle", got, err, [][]api.Span{
		box("1", "1", "0", "0", "-1/2", "-1/2", "0", "0", "1/24", "1/24"), box("0", "0", "-1", "-1", "0", "0", "1/6", "1/6", "0", "0"),
	}, api.OK)
	got, err = Series(still("5", "6"), zero, box("1/3", "7"), 2)
	expectLists(t, "Series of what stands still", got, err, [][]api.Span{box("1/3", "7", "0", "0", "0", "0")}, api.OK)
	got, err = Series(systemOf(box("0", "0"), api.Poly{term("3", 2, 0), term("1/2", 0, 0)}), span("-1", "2"), box("0", "0"), 4)
	// 3 t t + 1/2 on -1 to 2: t t is from -2 to 4, with the rate t + t
	expectLists(t, "Series of a cube of t", got, err, [][]api.Span{box("0", "0", "-11/2", "25/2", "-3", "6", "1", "1", "0", "0")}, api.OK)
}

// TestSeriesMultiplies has what a power of spans, or another order of factors, does not give.
func TestSeriesMultiplies(t *testing.T) {
	got, err := Series(square(), span("0", "0"), box("-1", "2"), 1)
	expectLists(t, "a square", got, err, [][]api.Span{box("-1", "2", "-2", "4")}, api.OK)
	got, err = Series(systemOf(box("0", "0"), api.Poly{term("-2", 0, 3)}), span("0", "0"), box("-2", "1"), 1)
	expectLists(t, "a cube", got, err, [][]api.Span{box("-2", "1", "-8", "16")}, api.OK) // x x x is from -8 to 4
	// x' = t x y, y' = 1, for t from -1 to 1, x from 1 to 2 and y from -2 to 3: t x is -2 to 2, and t x y is -6 to 6. The
	// next span of t x is that of t x' + x, -5 to 8, and of t x y that of t x y' + (t x)' y, -18 to 26. (With x y first it
	// would be that of t (x y)' + x y, -24 to 26.)
	s := systemOf(box("0", "0", "0", "0"), api.Poly{term("1", 1, 1, 1)}, api.Poly{term("1", 0, 0, 0)})
	got, err = Series(s, span("-1", "1"), box("1", "2", "-2", "3"), 2)
	expectLists(t, "an order of factors", got, err, [][]api.Span{box("1", "2", "-6", "6", "-9", "13"), box("-2", "3", "1", "1", "0", "0")}, api.OK)
}

func TestSeriesErrors(t *testing.T) {
	one, zero := box("1", "1"), span("0", "0")
	long := digits("9", 600)
	for _, row := range []struct {
		what  string
		s     api.System
		t     api.Span
		box   []api.Span
		order int
		want  api.Errno
	}{
		{"a wrong system", api.System{}, span("1", "0"), nil, 0, api.ErrEmpty}, {"a wrong span of t", growth(), span("1", "0"), nil, 0, api.ErrOrder}, {"no span of t", growth(), api.Span{}, one, 1, api.ErrForm},
		{"a wrong box", growth(), zero, nil, 0, api.ErrShape}, {"the order 0", growth(), zero, one, 0, api.ErrRange}, {"the order -1", growth(), zero, one, -1, api.ErrRange}, {"the order 17", growth(), zero, one, 17, api.ErrRange}, {"the order 16", growth(), zero, one, 16, api.OK}, {"the order 1", growth(), zero, one, 1, api.OK},
		{"a long span", square(), zero, box("1", long), 1, api.ErrLarge}, {"a span that is not too long", growth(), zero, box("-"+long, long), 1, api.OK}, {"a long denominator", growth(), zero, box("0", "1/"+long), 2, api.ErrLarge},
		// numbers of a hundred thousand digits would be on the way to the last span
		{"the first span that is too long", systemOf(one, api.Poly{term(long, 1, 11), term("1/3", 0, 12)}), span("0", "1/"+long), box("0", long), 16, api.ErrLarge},
	} {
		got, err := Series(row.s, row.t, row.box, row.order)
		expectError(t, "Series: "+row.what, err, row.want)
		if err != api.OK && got != nil {
			t.Errorf("Series: %s: %v beside an error", row.what, got)
		}
	}
}

// TestSeriesOfPoints has the series that the system has for a single start.
func TestSeriesOfPoints(t *testing.T) {
	r := rand.New(rand.NewSource(1))
	for range 200 {
		s := someSystem(t, r)
		for i := range s.Start {
			s.Start[i].High = s.Start[i].Low
		}
		order := 1 + r.Intn(5)
		want := must[[][]api.Rat](t)(generate.Series(s, order))
		got := must[[][]api.Span](t)(Series(s, span("0", "0"), s.Start, order))
		for i, list := range want {
			for k, c := range list {
				if got[i][k] != span(c, c) {
					t.Fatalf("the coefficient %d of the variable %d of %v is %v, want %s", k, i, s, got[i][k], c)
				}
			}
		}
	}
	want := big.NewRat(1, 1)
	got := must[[][]api.Span](t)(Series(growth(), span("5", "7"), box("1", "1"), 16))
	for k, c := range got[0] {
		if k > 0 {
			want.Mul(want, big.NewRat(1, int64(k)))
		}
		if c != span(ratOf(want), ratOf(want)) {
			t.Errorf("the coefficient %d of exp is %v", k, c)
		}
	}
}

// TestSeriesAsDefined compares series with those that the definitions give.
func TestSeriesAsDefined(t *testing.T) {
	r := rand.New(rand.NewSource(2))
	for range 600 {
		s, at, order := someSystem(t, r), someSpan(r), 1+r.Intn(4)
		start := someBox(r, len(s.Names))
		var want [][]api.Span
		for _, list := range seriesOf(s, wideOf(at), widesOf(start), order) {
			want = append(want, spansOf(list))
		}
		got, err := Series(s, at, start, order)
		expectLists(t, "Series", got, err, want, api.OK)
	}
}
