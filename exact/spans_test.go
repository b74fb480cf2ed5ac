package exact

import (
	"math/big"
	"math/rand"
	"testing"

	"integraph/api"
)

// The tests of this file are those of P1.2.

func TestCheckSpan(t *testing.T) {
	for _, row := range []struct {
		s    api.Span
		want api.Errno
	}{
		{span("0", "1"), api.OK}, {span("1/2", "1/2"), api.OK}, {span("-1", "-1/2"), api.OK}, {span("2", "1"), api.ErrOrder},
		{span("-1/3", "-1/2"), api.ErrOrder}, {span("", ""), api.ErrForm}, {span("2/4", "1"), api.ErrForm}, {span("1", "2/4"), api.ErrForm},
		{span("2", api.Rat(digits("9", 601))), api.ErrLarge}, {span(api.Rat(digits("9", 601)), "x"), api.ErrLarge},
		{span("x", api.Rat(digits("9", 601))), api.ErrForm},
	} {
		expectError(t, "CheckSpan", CheckSpan(row.s), row.want)
	}
}

func TestOutward(t *testing.T) {
	full := api.Rat(digits("9", 600))
	for _, row := range []struct {
		s    api.Span
		bits int
		want api.Span
		e    api.Errno
	}{
		{span("1/3", "2/3"), 2, span("1/4", "3/4"), api.OK}, {span("-1/3", "1/2"), 1, span("-1/2", "1/2"), api.OK},
		{span("-2/3", "-1/3"), 0, span("-1", "0"), api.OK}, {span("1/3", "1/3"), 1, span("0", "1/2"), api.OK},
		{span("1/4", "1/2"), 2, span("1/4", "1/2"), api.OK}, {span("0", "1/"+full), 64, span("0", "1/18446744073709551616"), api.OK},
		{span("0", "1"), -1, api.Span{}, api.ErrRange}, {span("0", "1"), 65, api.Span{}, api.ErrRange},
		{span("1", "0"), 65, api.Span{}, api.ErrOrder}, {span("1", "x"), -1, api.Span{}, api.ErrForm},
		{span("0", full+"/17"), 64, api.Span{}, api.ErrLarge}, {span("-"+full+"/17", "0"), 64, api.Span{}, api.ErrLarge},
	} {
		got, e := Outward(row.s, row.bits)
		expect(t, "Outward", got, e, row.want, row.e)
	}
}

func TestSpanOperations(t *testing.T) {
	full := api.Rat(digits("9", 600))
	for _, row := range []struct {
		what      string
		operation func(a, b api.Span) (api.Span, api.Errno)
		a, b      api.Span
		want      api.Span
		e         api.Errno
	}{
		{"AddSpans", AddSpans, span("1", "2"), span("-1", "3"), span("0", "5"), api.OK},
		{"AddSpans", AddSpans, span("0", full), span("0", "1"), api.Span{}, api.ErrLarge},
		{"AddSpans", AddSpans, span("-"+full, "0"), span("-1", "1"), api.Span{}, api.ErrLarge},
		{"SubSpans", SubSpans, span("1", "2"), span("-1", "3"), span("-2", "3"), api.OK},
		{"SubSpans", SubSpans, span("1", "2"), span("1", "2"), span("-1", "1"), api.OK},
		{"MulSpans", MulSpans, span("-1", "2"), span("-3", "1"), span("-6", "3"), api.OK},
		{"MulSpans", MulSpans, span("-1", "2"), span("-1", "2"), span("-2", "4"), api.OK},
		{"MulSpans", MulSpans, span("-1/2", "-1/3"), span("-3", "-2"), span("2/3", "3/2"), api.OK},
		{"MulSpans", MulSpans, span("0", "0"), span("-3", full), span("0", "0"), api.OK},
		{"MulSpans", MulSpans, span("-1", "0"), span("0", full), span("-"+full, "0"), api.OK},
		{"MulSpans", MulSpans, span("0", "10"), span("0", full), api.Span{}, api.ErrLarge},
		{"AddSpans", AddSpans, span("1", "0"), span("x", "0"), api.Span{}, api.ErrOrder},
		{"SubSpans", SubSpans, span("1", "1"), span("x", "0"), api.Span{}, api.ErrForm},
		{"MulSpans", MulSpans, span("", "1"), span("1", "0"), api.Span{}, api.ErrForm},
	} {
		got, e := row.operation(row.a, row.b)
		expect(t, row.what, got, e, row.want, row.e)
	}
}

func TestPowerSpan(t *testing.T) {
	for _, row := range []struct {
		s    api.Span
		n    int
		want api.Span
		e    api.Errno
	}{
		{span("-1", "2"), 2, span("0", "4"), api.OK}, {span("-1", "2"), 3, span("-1", "8"), api.OK}, {span("-3", "2"), 4, span("0", "81"), api.OK},
		{span("-3", "-2"), 2, span("4", "9"), api.OK}, {span("-3", "-2"), 3, span("-27", "-8"), api.OK}, {span("2", "3"), 2, span("4", "9"), api.OK},
		{span("-1", "2"), 0, span("1", "1"), api.OK}, {span("0", "0"), 0, span("1", "1"), api.OK}, {span("-1/2", "2"), 1, span("-1/2", "2"), api.OK},
		{span("-2", "0"), 2, span("0", "4"), api.OK}, {span("0", "2"), 12, span("0", "4096"), api.OK},
		{span("1", "2"), 13, api.Span{}, api.ErrRange}, {span("1", "2"), -1, api.Span{}, api.ErrRange}, {span("2", "1"), 13, api.Span{}, api.ErrOrder},
		{span("0", powerOfTen(50)), 12, api.Span{}, api.ErrLarge}, {span("0", powerOfTen(49)), 12, span("0", powerOfTen(588)), api.OK},
		{span("-"+powerOfTen(300), "0"), 2, api.Span{}, api.ErrLarge},
	} {
		got, e := PowerSpan(row.s, row.n)
		expect(t, "PowerSpan", got, e, row.want, row.e)
	}
}

func TestHull(t *testing.T) {
	many := make([]api.Span, api.MaxList)
	for i := range many {
		many[i] = span(ratOf(big.NewRat(int64(i-100), 3)), ratOf(big.NewRat(int64(i), 3)))
	}
	withErrors := []api.Span{span("0", "1"), span("1", "0"), span("x", "0")}
	for _, row := range []struct {
		what string
		l    []api.Span
		want api.Span
		e    api.Errno
	}{
		{"two spans", []api.Span{span("1", "2"), span("-1", "0")}, span("-1", "2"), api.OK}, {"one", many[:1], many[0], api.OK},
		{"256 spans", many, span("-100/3", "85"), api.OK}, {"nothing", nil, api.Span{}, api.ErrShape}, {"an empty list", []api.Span{}, api.Span{}, api.ErrShape},
		{"257 spans", append(many, span("x", "")), api.Span{}, api.ErrMany}, {"the first error", withErrors, api.Span{}, api.ErrOrder},
	} {
		got, e := Hull(row.l)
		expect(t, "Hull of "+row.what, got, e, row.want, row.e)
	}
}

func TestWithin(t *testing.T) {
	for _, row := range []struct {
		a, b api.Span
		want bool
		e    api.Errno
	}{
		{span("0", "1"), span("0", "1"), true, api.OK}, {span("1/3", "1/2"), span("0", "1"), true, api.OK}, {span("0", "3"), span("0", "2"), false, api.OK},
		{span("-1/9", "1"), span("0", "2"), false, api.OK}, {span("5", "6"), span("0", "2"), false, api.OK}, {span("0", "2"), span("1", "1"), false, api.OK},
		{span("1", "0"), span("x", "1"), false, api.ErrOrder}, {span("0", "1"), span("x", "1"), false, api.ErrForm},
	} {
		got, e := Within(row.a, row.b)
		expect(t, "Within", got, e, row.want, row.e)
	}
}

// TestRandomSpans looks at the values of an operation in and at the ends of spans: they are in the result, and its
// ends are among them.
func TestRandomSpans(t *testing.T) {
	r := rand.New(rand.NewSource(2))
	for range 2000 {
		a, b := someSpan(r), someSpan(r)
		for _, row := range []struct {
			what  string
			spans func(a, b api.Span) (api.Span, api.Errno)
			big   func(z, x, y *big.Rat) *big.Rat
		}{{"AddSpans", AddSpans, (*big.Rat).Add}, {"SubSpans", SubSpans, (*big.Rat).Sub}, {"MulSpans", MulSpans, (*big.Rat).Mul}} {
			var low, high *big.Rat
			for _, x := range []*big.Rat{bigOf(a.Low), bigOf(a.High)} {
				for _, y := range []*big.Rat{bigOf(b.Low), bigOf(b.High)} {
					z := row.big(new(big.Rat), x, y)
					if low == nil || z.Cmp(low) < 0 {
						low = z
					}
					if high == nil || z.Cmp(high) > 0 {
						high = z
					}
				}
			}
			got, e := row.spans(a, b)
			expect(t, row.what, got, e, span(ratOf(low), ratOf(high)), api.OK)
		}
	}
}
