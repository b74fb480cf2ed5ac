package enclose

import (
	"math/big"
	"math/rand"
	"testing"

	"integraph/api"
	"integraph/exact"
)

// The tests of this file are those of P8.5 and P8.6.

func TestSpeeds(t *testing.T) {
	zero := span("0", "0")
	got, err := Speeds(square(), zero, box("-3", "2"))
	expectList(t, "Speeds of the square", got, err, []api.Rat{"9"}, api.OK)
	got, err = Speeds(circle(), zero, box("-1", "1/2", "-1/3", "1/4"))
	expectList(t, "Speeds of the circle", got, err, []api.Rat{"1/3", "1"}, api.OK)
	got, err = Speeds(still("1", "1"), zero, box("5", "6"))
	expectList(t, "Speeds of what stands still", got, err, []api.Rat{"0"}, api.OK)
	got, err = Speeds(systemOf(box("0", "0"), api.Poly{term("-2", 1, 0), term("1/2", 0, 1)}), span("1", "3"), box("0", "1"))
	expectList(t, "Speeds with t", got, err, []api.Rat{"6"}, api.OK) // -6 to -3/2
	long := digits("9", 600)
	got, err = Speeds(systemOf(box("0", "0"), api.Poly{term("-2", 0, 1)}), zero, box("0", long))
	expectList(t, "Speeds that are too long", got, err, nil, api.ErrLarge)
	got, err = Speeds(growth(), zero, box("-"+long, long))
	expectList(t, "Speeds that are not too long", got, err, []api.Rat{long}, api.OK)
}

func TestLipschitz(t *testing.T) {
	zero, long := span("0", "0"), digits("9", 600)
	nine := api.Poly{term(long, 0, 2)}
	for _, row := range []struct {
		what string
		s    api.System
		t    api.Span
		box  []api.Span
		want api.Rat
		err  api.Errno
	}{
		{"the square", square(), zero, box("-3", "2"), "6", api.OK}, {"the circle", circle(), zero, box("-7", "8", "0", "5"), "1", api.OK}, {"what stands still", still("1", "1"), zero, box("5", "6"), "0", api.OK}, {"t alone", systemOf(box("0", "0"), api.Poly{term("5", 3, 0)}), span("0", "9"), box("5", "6"), "0", api.OK},
		// the derivatives of x y t are y t, from -9 to 6, and x t, from 0 to 6; those of x - 20 y are 1 and -20
		{"a sum of derivatives", systemOf(box("0", "0", "0", "0"), api.Poly{term("1", 1, 1, 1)}, nil), span("0", "3"), box("0", "2", "-3", "2"), "15", api.OK}, {"the second rate", systemOf(box("0", "0", "0", "0"), api.Poly{term("1", 1, 1, 1)}, api.Poly{term("1", 0, 1, 0), term("-20", 0, 0, 1)}), span("0", "3"), box("0", "2", "-3", "2"), "21", api.OK},
		{"a derivative with a long factor", systemOf(box("0", "0"), nine), zero, box("0", "1/2"), long, api.OK}, {"a long one", systemOf(box("0", "0"), nine), zero, box("0", "1"), "", api.ErrLarge},
	} {
		got, err := Lipschitz(row.s, row.t, row.box)
		expect(t, "Lipschitz of "+row.what, got, err, row.want, row.err)
	}
}

func TestErrorsOfBounds(t *testing.T) {
	for _, row := range []struct {
		what string
		s    api.System
		t    api.Span
		box  []api.Span
		want api.Errno
	}{
		{"a wrong system", api.System{}, api.Span{}, nil, api.ErrEmpty}, {"no span of t", growth(), api.Span{Low: "1"}, nil, api.ErrForm}, {"a wrong span of t", growth(), span("1", "0"), nil, api.ErrOrder}, {"a long span of t", growth(), span("0", digits("9", 601)), nil, api.ErrLarge}, {"no box", growth(), span("0", "1"), nil, api.ErrShape}, {"a wrong box", growth(), span("0", "1"), box("1", "0"), api.ErrOrder},
	} {
		speeds, err := Speeds(row.s, row.t, row.box)
		expectList(t, "Speeds: "+row.what, speeds, err, nil, row.want)
		bound, err := Lipschitz(row.s, row.t, row.box)
		expect(t, "Lipschitz: "+row.what, bound, err, "", row.want)
	}
}

// TestBoundsAsDefined compares bounds with what the definitions give.
func TestBoundsAsDefined(t *testing.T) {
	r := rand.New(rand.NewSource(6))
	largest := func(p api.Poly, t api.Span, box []api.Span) *big.Rat {
		a := extension(p, wideOf(t), widesOf(box))
		return hullOf(new(big.Rat).Abs(a[0]), new(big.Rat).Abs(a[1]))[1]
	}
	for range 400 {
		s, at := someSystem(t, r), someSpan(r)
		n := len(s.Names)
		place := someBox(r, n)
		var speeds []api.Rat
		bound := new(big.Rat)
		for _, rate := range s.Rates {
			speeds = append(speeds, ratOf(largest(rate, at, place)))
			sum := new(big.Rat)
			for v := range n {
				sum.Add(sum, largest(must[api.Poly](t)(exact.DerivePoly(rate, n, v+1)), at, place))
			}
			bound = hullOf(bound, sum)[1]
		}
		got, err := Speeds(s, at, place)
		expectList(t, "Speeds", got, err, speeds, api.OK)
		gotBound, err := Lipschitz(s, at, place)
		expect(t, "Lipschitz", gotBound, err, ratOf(bound), api.OK)
	}
}

func TestKeeps(t *testing.T) {
	at := func(whole []api.Span, last ...[]api.Span) []api.Box {
		var tube []api.Box
		for i, list := range last {
			tube = append(tube, api.Box{End: api.Rat([]string{"1", "2", "3"}[i]), Whole: whole, Last: list})
		}
		return tube
	}
	far := box("9", "9", "9", "9")
	// x' = 1: x - t is a first integral
	clock, integral := systemOf(box("5", "11/2"), api.Poly{term("1", 0, 0)}), api.Poly{term("-1", 1, 0), term("1", 0, 1)}
	for _, row := range []struct {
		what string
		s    api.System
		p    api.Poly
		tube []api.Box
		want bool
		err  api.Errno
	}{
		{"no boxes", circle(), energy(), nil, true, api.OK}, {"points of the circle", circle(), energy(), at(far, box("3/5", "3/5", "4/5", "4/5"), box("-1", "-1", "0", "0")), true, api.OK}, {"boxes around it", circle(), energy(), at(far, box("1/2", "1", "1/2", "1")), true, api.OK}, {"its corner", circle(), energy(), at(far, box("0", "3/5", "0", "4/5")), true, api.OK},
		{"a box inside", circle(), energy(), at(far, box("0", "3/5", "0", "3/5")), false, api.OK}, {"a box outside", circle(), energy(), at(far, box("4/5", "2", "4/5", "2")), false, api.OK}, {"the second box outside", circle(), energy(), at(far, box("1", "1", "0", "0"), box("2", "3", "0", "0")), false, api.OK},
		// from 1 to 2 at the start, 2 to 3 and 1/2 to 1 later: these two have nothing in common, but each one with Start
		{"each one by itself", systemOf(box("1", "2"), nil), api.Poly{term("1", 0, 1)}, at(box("0", "0"), box("2", "3"), box("1/2", "1")), true, api.OK},
		{"t at the ends", clock, integral, at(box("0", "0"), box("6", "6"), box("15/2", "9")), true, api.OK}, {"t at an end that does not fit", clock, integral, at(box("0", "0"), box("6", "6"), box("6", "6")), false, api.OK},
		{"a constant", circle(), api.Poly{term("7", 0, 0, 0)}, at(far, far), true, api.OK}, {"0", circle(), nil, at(far, far), true, api.OK}, {"a multiple of a long factor", circle(), api.Poly{term(digits("9", 600), 0, 2, 0), term(digits("9", 600), 0, 0, 2)}, at(far, box("3/5", "3/5", "4/5", "4/5")), true, api.OK},
		{"no first integral", circle(), api.Poly{term("1", 0, 1, 0)}, nil, false, api.ErrNone}, {"none of the clock", clock, api.Poly{term("1", 0, 1)}, nil, false, api.ErrNone},
		{"a wrong system", api.System{}, nil, at(nil, nil), false, api.ErrEmpty}, {"a wrong polynomial", circle(), api.Poly{term("0", 0, 1, 0)}, at(nil, nil), false, api.ErrZero}, {"a polynomial in fewer variables", circle(), api.Poly{term("1", 0, 1)}, at(nil, nil), false, api.ErrShape}, {"65 terms", circle(), make(api.Poly, 65), nil, false, api.ErrMany}, {"a wrong tube in front of no first integral", circle(), api.Poly{term("1", 0, 1, 0)}, at(far, nil), false, api.ErrShape},
	} {
		got, err := Keeps(row.s, row.p, row.tube)
		expect(t, "Keeps: "+row.what, got, err, row.want, row.err)
	}
}
