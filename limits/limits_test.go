package limits

import (
	"slices"
	"strings"
	"testing"

	"integraph/api"
	"integraph/number"
	"integraph/polynomial"
)

// The functions of package exact, which have the same errors, are tested with many more arguments.

var nines = strings.Repeat("9", 600)

func expectError(t *testing.T, what string, got, want api.Errno) {
	t.Helper()
	if got != want {
		t.Errorf("%s: got the error %d, want %d", what, got, want)
	}
}

func TestRats(t *testing.T) {
	for _, row := range []struct {
		a    api.Rat
		want api.Errno
	}{{"0", api.OK}, {"-3/2", api.OK}, {api.Rat("-1/" + nines), api.OK}, {"", api.ErrForm}, {"-0", api.ErrForm}, {"01", api.ErrForm}, {"2/4", api.ErrForm}, {"1/1", api.ErrForm}, {"1/0", api.ErrForm}, {"x", api.ErrForm}, {api.Rat(nines + "9"), api.ErrLarge}} {
		x, e := ReadRat(row.a)
		expectError(t, "ReadRat of "+string(row.a), e, row.want)
		if e != api.OK {
			continue
		}
		a, e := WriteRat(x)
		expectError(t, "WriteRat of "+string(row.a), e, api.OK)
		if a != row.a {
			t.Errorf("%s is written as %s", row.a, a)
		}
	}
	great, _ := ReadRat(api.Rat(nines))
	a, e := WriteRat(great.Plus(number.Whole(1)))
	expectError(t, "WriteRat of 601 digits", e, api.ErrLarge)
	if a != "" {
		t.Errorf("a number beside an error: %s", a)
	}
}

func TestPositive(t *testing.T) {
	for _, row := range []struct {
		a    api.Rat
		want api.Errno
	}{{"3/2", api.OK}, {api.Rat("1/" + nines), api.OK}, {"0", api.ErrRange}, {"-3/2", api.ErrRange}, {"-2/4", api.ErrForm}, {"", api.ErrForm}, {api.Rat("-" + nines + "9"), api.ErrLarge}} {
		x, e := ReadPositive(row.a)
		expectError(t, "ReadPositive of "+string(row.a), e, row.want)
		if want := map[bool]string{true: string(row.a), false: "0"}[e == api.OK]; x.String() != want {
			t.Errorf("ReadPositive of %s is %s", row.a, x)
		}
	}
}

func TestIntegers(t *testing.T) {
	for _, word := range []string{"", "-1", "+1", "-0", "01", "00", "1/2", "1 ", " 1", "x", "0x1", "1e2", "1_0", "1000000000", nines, "99999999999999999999", "\u0661"} {
		n, e := ReadInteger(word)
		expectError(t, "ReadInteger of "+word, e, api.ErrSyntax)
		if n != 0 {
			t.Errorf("ReadInteger of %s is %d", word, n)
		}
	}
	for word, want := range map[string]int{"0": 0, "7": 7, "10": 10, "999999999": 999999999} {
		n, e := ReadInteger(word)
		expectError(t, "ReadInteger of "+word, e, api.OK)
		if n != want {
			t.Errorf("ReadInteger of %s is %d", word, n)
		}
	}
}

func TestSpans(t *testing.T) {
	for _, row := range []struct {
		s    api.Span
		want api.Errno
	}{{api.Span{Low: "-1/2", High: "3"}, api.OK}, {api.Span{Low: "1", High: "1"}, api.OK}, {api.Span{Low: "1", High: "0"}, api.ErrOrder}, {api.Span{Low: "", High: "0"}, api.ErrForm}, {api.Span{Low: "0", High: api.Rat(nines + "9")}, api.ErrLarge}} {
		x, e := ReadSpan(row.s)
		expectError(t, "ReadSpan", e, row.want)
		if s, e := WriteSpan(x); row.want == api.OK && (s != row.s || e != api.OK) {
			t.Errorf("%v is written as %v, with the error %d", row.s, s, e)
		}
	}
	great, _ := ReadRat(api.Rat(nines))
	s, e := WriteSpan(number.Span{Low: great, High: great.Plus(great)})
	expectError(t, "WriteSpan of 601 digits", e, api.ErrLarge)
	if s != (api.Span{}) {
		t.Errorf("a span beside an error: %v", s)
	}
}

func TestPolys(t *testing.T) {
	p := api.Poly{{Factor: "2", Powers: []int{1, 11}}, {Factor: "-1/3", Powers: []int{0, 1}}}
	q, e := ReadPoly(p, 1)
	expectError(t, "ReadPoly", e, api.OK)
	for _, row := range []struct {
		what string
		p    api.Poly
		vars int
		want api.Errno
	}{
		{"vars -1", nil, -1, api.ErrRange}, {"vars 25", nil, 25, api.ErrRange}, {"65 terms", make(api.Poly, 65), 1, api.ErrMany}, {"powers", p, 2, api.ErrShape}, {"a wrong order", api.Poly{p[1], p[0]}, 1, api.ErrOrder}, {"a term twice", api.Poly{p[0], p[0]}, 1, api.ErrOrder},
		{"a factor 0", api.Poly{{Factor: "0", Powers: []int{0, 1}}}, 1, api.ErrZero}, {"a power below 0", api.Poly{{Factor: "1", Powers: []int{0, -1}}}, 1, api.ErrRange}, {"a power 13", api.Poly{{Factor: "1", Powers: []int{1, 12}}}, 1, api.ErrLarge},
	} {
		_, e := ReadPoly(row.p, row.vars)
		expectError(t, "ReadPoly: "+row.what, e, row.want)
	}
	list, e := ReadPolys([]api.Poly{nil, p}, 1)
	if e != api.OK || len(list) != 2 || len(list[0]) != 0 || !slices.EqualFunc(list[1], q, func(a, b polynomial.Term) bool { return a.Powers == b.Powers && a.Factor.Compare(b.Factor) == 0 }) {
		t.Errorf("ReadPolys: %v with the error %d", list, e)
	}
	list, e = ReadPolys([]api.Poly{p, make(api.Poly, 65), {{}}}, 1)
	expectError(t, "ReadPolys", e, api.ErrMany)
	if list != nil {
		t.Errorf("polynomials beside an error: %v", list)
	}
	got, e := WritePoly(slices.Values(q), 1)
	expectError(t, "WritePoly", e, api.OK)
	if len(got) != 2 || got[1].Factor != "-1/3" || !slices.Equal(got[0].Powers, []int{1, 11}) {
		t.Errorf("%v is written as %v", p, got)
	}
	_, e = WritePoly(slices.Values(q.Times(q)), 1)
	expectError(t, "WritePoly of a power 24", e, api.ErrLarge)
	var many polynomial.Poly
	for i := range 65 {
		many = append(many, polynomial.Term{Powers: polynomial.Powers{uint8(12 - i/6)}, Factor: number.Whole(1)})
	}
	_, e = WritePoly(slices.Values(many), 1)
	expectError(t, "WritePoly of 65 terms", e, api.ErrMany)
}

func TestAllReturnsTheFirstError(t *testing.T) {
	list, e := All([]api.Rat{"1", "x", api.Rat(nines + "9")}, ReadRat)
	expectError(t, "All", e, api.ErrForm)
	if list != nil {
		t.Errorf("a list beside an error: %v", list)
	}
	_, _, e = Two("1", api.Rat(nines+"9"), ReadRat)
	expectError(t, "Two", e, api.ErrLarge)
}
