package generate

import (
	"math"
	"math/rand"
	"slices"
	"strconv"
	"strings"
	"testing"

	"integraph/api"
	"integraph/exact"
)

// The tests of this file are those of P3.5.

// web has variables that need others: a needs b, b and c each other, d nothing, e a and d.
func web(t *testing.T) api.System {
	return sys(t, "a: b * t; 1", "b: c^2; 0..1/2", "c: b + t; -3", "d: t^3; 2", "e: a * d - 1; 5")
}

func TestExtend(t *testing.T) {
	s := sys(t, "x: x * y + t; 0..1", "y: 2 - x; 1")
	for _, row := range []struct{ p, want string }{
		{"0", "z: 0; 0"}, {"7/2", "z: 0; 7/2"}, {"t", "z: 1; 0"}, {"x", "z: x * y + t; 0..1"}, {"y^2 - t", "z: 2 * y * (2 - x) - 1; 1"}, {"x^2 - x + t", "z: (2 * x - 1) * (x * y + t) + 1; -1..1"}, {"x - 2 * y", "z: x * y + t - 4 + 2 * x; -2..-1"},
	} {
		got, err := Extend(s, "z", poly(t, row.p, "x", "y"))
		expectSystem(t, "Extend by "+row.p, got, err, sys(t, "x: x * y + t; 0..1", "y: 2 - x; 1", row.want), api.OK)
	}
}

func TestAutonomous(t *testing.T) {
	for _, row := range []struct{ s, want []string }{
		{[]string{"x: t * x; 1"}, []string{"x: z * x; 1", "z: 1; 0"}},
		{[]string{"x: t^3 + t * x^2 + x - 1; 1", "y: 0; 2..3"}, []string{"x: z^3 + z * x^2 + x - 1; 1", "y: 0; 2..3", "z: 1; 0"}},
		{[]string{"x: t^2 * y + x * y + t * x * y; 1", "y: t - x + y; 2"}, []string{"x: z^2 * y + x * y + z * x * y; 1", "y: z - x + y; 2", "z: 1; 0"}},
	} {
		got, err := Autonomous(sys(t, row.s...), "z")
		expectSystem(t, "Autonomous of "+row.s[0], got, err, sys(t, row.want...), api.OK)
		back, err := Autonomous(got, "z2")
		if err != api.OK || len(back.Names) != len(row.want)+1 || slices.ContainsFunc(got.Rates, func(p api.Poly) bool { return occurs(p, 0) }) {
			t.Errorf("Autonomous of %v: t occurs, or the error %d", got, err)
		}
	}
}

func TestFurtherErrors(t *testing.T) {
	s, full := sys(t, "x: x^2; "+digits("9", 400), "y: y; 1"), wide(24)
	nothing := make(api.Poly, 65)
	for _, row := range []struct {
		what string
		s    api.System
		name string
		p    api.Poly
		want api.Errno
		both bool // also of Autonomous
	}{
		{"a further variable", s, "z#'_9", nil, api.OK, true}, {"the 24th variable", wide(23), "z", nil, api.OK, true}, {"the 25th variable", full, "z", nil, api.ErrMany, true},
		{"no system", api.System{}, "", nil, api.ErrEmpty, true}, {"an empty name", s, "", nothing, api.ErrName, true}, {"too long a name", s, digits("z", 33), nil, api.ErrName, true}, {"a long name", s, digits("z", 32), nil, api.OK, true}, {"a name that is none", full, "z z", nothing, api.ErrName, true},
		{"a name that is there", s, "y", nothing, api.ErrTwice, true}, {"a name that is there before the 25th variable", full, "x24", nil, api.ErrTwice, true},
		{"no polynomial", s, "z", nothing, api.ErrMany, false}, {"a polynomial in another number of variables", s, "z", api.Poly{{Factor: "1", Powers: []int{1}}}, api.ErrShape, false}, {"no polynomial before the 25th variable", full, "z", api.Poly{{}}, api.ErrShape, false},
		{"too large a rate", s, "z", poly(t, "x^12", "x", "y"), api.ErrLarge, false}, {"a rate before a start", s, "z", poly(t, "x^2 * (x + y + 1 + t)^5", "x", "y"), api.ErrMany, false}, {"too large a start", s, "z", poly(t, "x^2", "x", "y"), api.ErrLarge, false}, {"a start of 400 digits", s, "z", poly(t, "x * y", "x", "y"), api.OK, false},
	} {
		got, err := Extend(row.s, row.name, row.p)
		if row.want != api.OK {
			expectSystem(t, "Extend: "+row.what, got, err, api.System{}, row.want)
		} else {
			expectSystem(t, "Extend: "+row.what, got, err, got, api.OK)
		}
		if !row.both {
			continue
		}
		got, err = Autonomous(row.s, row.name)
		if row.want != api.OK {
			expectSystem(t, "Autonomous: "+row.what, got, err, api.System{}, row.want)
		} else {
			expectSystem(t, "Autonomous: "+row.what, got, err, got, api.OK)
		}
	}
}

func TestNeededAndSub(t *testing.T) {
	s := web(t)
	for _, row := range []struct {
		list, want []int
		sub        []string
	}{
		{[]int{0}, []int{0, 1, 2}, []string{"a: b * t; 1", "b: c^2; 0..1/2", "c: b + t; -3"}}, {[]int{1}, []int{1, 2}, []string{"b: c^2; 0..1/2", "c: b + t; -3"}}, {[]int{2}, []int{1, 2}, []string{"b: c^2; 0..1/2", "c: b + t; -3"}},
		{[]int{3}, []int{3}, []string{"d: t^3; 2"}}, {[]int{4}, []int{0, 1, 2, 3, 4}, []string{"a: b * t; 1", "b: c^2; 0..1/2", "c: b + t; -3", "d: t^3; 2", "e: a * d - 1; 5"}},
		{[]int{3, 2}, []int{1, 2, 3}, []string{"b: c^2; 0..1/2", "c: b + t; -3", "d: t^3; 2"}}, {[]int{4, 3, 2, 1, 0}, []int{0, 1, 2, 3, 4}, []string{"a: b * t; 1", "b: c^2; 0..1/2", "c: b + t; -3", "d: t^3; 2", "e: a * d - 1; 5"}},
	} {
		got, err := Needed(s, row.list)
		expectList(t, "Needed", got, err, row.want, api.OK)
		sub, err := Sub(s, row.list)
		expectSystem(t, "Sub", sub, err, sys(t, row.sub...), api.OK)
	}
}

func TestNumbersErrors(t *testing.T) {
	s := web(t)
	for _, row := range []struct {
		what string
		s    api.System
		list []int
		want api.Errno
	}{
		{"an empty list", s, nil, api.ErrEmpty}, {"no system", api.System{}, nil, api.ErrEmpty}, {"no starts", api.System{Names: s.Names, Rates: s.Rates}, nil, api.ErrShape},
		{"the number 5 of 5", s, []int{5}, api.ErrUnknown}, {"a number below 0", s, []int{-1}, api.ErrUnknown}, {"the least number", s, []int{0, math.MinInt}, api.ErrUnknown}, {"the greatest number", s, []int{0, math.MaxInt}, api.ErrUnknown},
		{"a number twice", s, []int{1, 0, 1}, api.ErrTwice}, {"twice before unknown", s, []int{1, 1, 5}, api.ErrTwice}, {"unknown before twice", s, []int{5, 1, 1}, api.ErrUnknown}, {"unknown twice", s, []int{5, 5}, api.ErrUnknown}, {"more numbers than variables", s, []int{0, 1, 2, 3, 4, 0}, api.ErrTwice},
	} {
		got, err := Needed(row.s, row.list)
		expectList(t, "Needed: "+row.what, got, err, nil, row.want)
		sub, err := Sub(row.s, row.list)
		expectSystem(t, "Sub: "+row.what, sub, err, api.System{}, row.want)
	}
	for _, row := range []struct {
		what  string
		s     api.System
		order []int
		want  api.Errno
	}{
		{"no system", api.System{}, nil, api.ErrEmpty}, {"no order", s, nil, api.ErrShape}, {"too few numbers", s, []int{0, 1, 2, 7}, api.ErrShape}, {"too many numbers", s, []int{0, 1, 2, 3, 4, 0}, api.ErrShape},
		{"a number twice", s, []int{0, 1, 2, 3, 0}, api.ErrTwice}, {"an unknown number", s, []int{0, 1, 2, 3, 5}, api.ErrUnknown}, {"unknown before twice", s, []int{0, 5, 0, 1, 2}, api.ErrUnknown}, {"twice before unknown", s, []int{0, 0, 5, 1, 2}, api.ErrTwice}, {"a number below 0", s, []int{-1, 0, 1, 2, 3}, api.ErrUnknown},
	} {
		got, err := Permute(row.s, row.order)
		expectSystem(t, "Permute: "+row.what, got, err, api.System{}, row.want)
	}
}

func TestJoin(t *testing.T) {
	a, b := sys(t, "x: x * t + y; 1", "y: y^2; 0..1"), sys(t, "u: t^2 - v * w; 2", "v: u + v + w; 3", "w: 7; 4")
	got, err := Join(a, b)
	expectSystem(t, "Join", got, err, sys(t, "x: x * t + y; 1", "y: y^2; 0..1", "u: t^2 - v * w; 2", "v: u + v + w; 3", "w: 7; 4"), api.OK)
	other := func(s api.System) api.System {
		for i := range s.Names {
			s.Names[i] = "y" + s.Names[i]
		}
		return s
	}
	for _, row := range []struct {
		what string
		a, b api.System
		want api.Errno
	}{
		{"24 variables", wide(13), other(wide(11)), api.OK}, {"25 variables", wide(13), other(wide(12)), api.ErrMany}, {"48 variables", wide(24), other(wide(24)), api.ErrMany}, {"a name twice", a, sys(t, "v: 0; 0", "y: 0; 0"), api.ErrTwice}, {"a name twice before 25 variables", wide(24), wide(1), api.ErrTwice}, {"itself", a, a, api.ErrTwice},
		{"no first system", api.System{}, api.System{Names: []string{"x"}}, api.ErrEmpty}, {"no second system", a, api.System{Names: []string{"x"}}, api.ErrShape},
	} {
		got, err := Join(row.a, row.b)
		if row.want != api.OK {
			expectSystem(t, "Join: "+row.what, got, err, api.System{}, row.want)
		} else {
			expectSystem(t, "Join: "+row.what, got, err, got, api.OK)
		}
	}
}

func TestPermute(t *testing.T) {
	s := sys(t, "x: t * x + y^2 - z; 1", "y: x * z + x; 2", "z: y * z^2 + x^2 * y; 3..4")
	for _, row := range []struct {
		order []int
		want  []string
	}{
		{[]int{0, 1, 2}, []string{"x: t * x + y^2 - z; 1", "y: x * z + x; 2", "z: y * z^2 + x^2 * y; 3..4"}}, {[]int{2, 0, 1}, []string{"z: y * z^2 + x^2 * y; 3..4", "x: t * x + y^2 - z; 1", "y: x * z + x; 2"}},
		{[]int{1, 2, 0}, []string{"y: x * z + x; 2", "z: y * z^2 + x^2 * y; 3..4", "x: t * x + y^2 - z; 1"}}, {[]int{2, 1, 0}, []string{"z: y * z^2 + x^2 * y; 3..4", "y: x * z + x; 2", "x: t * x + y^2 - z; 1"}},
	} {
		got, err := Permute(s, row.order)
		expectSystem(t, "Permute", got, err, sys(t, row.want...), api.OK)
	}
}

func TestEqual(t *testing.T) {
	circle := []string{"x: y; 0", "y: -x; 1"}
	for _, row := range []struct {
		what  string
		a, b  []string
		order []int
		is    bool
	}{
		{"itself", circle, circle, []int{0, 1}, true}, {"another order and names", circle, []string{"p: -q; 1", "q: p; 0"}, []int{1, 0}, true}, {"another start", circle, []string{"x: y; 0", "y: -x; 2"}, nil, false}, {"a wider start", circle, []string{"x: y; 0..1", "y: -x; 1"}, nil, false}, {"another rate", circle, []string{"x: y; 0", "y: x; 1"}, nil, false},
		{"starts in the other order", circle, []string{"x: y; 1", "y: -x; 0"}, nil, false}, {"another number", circle, []string{"x: 1; 0"}, nil, false}, {"one variable", []string{"x: x * t; 1"}, []string{"y: y * t; 1"}, []int{0}, true}, {"a power of t", []string{"x: x * t; 1"}, []string{"y: y^2; 1"}, nil, false},
		{"variables alike", []string{"x: x; 1", "y: y; 1", "z: z; 1"}, []string{"p: p; 1", "q: q; 1", "r: r; 1"}, []int{0, 1, 2}, true},
		{"some alike", []string{"x: 1; 0", "y: y; 1", "z: 1; 0"}, []string{"p: p; 1", "q: 1; 0", "r: 1; 0"}, []int{1, 0, 2}, true},
		{"a ring", []string{"x: y; 1", "y: z; 1", "z: x; 1"}, []string{"p: r; 1", "q: p; 1", "r: q; 1"}, []int{0, 2, 1}, true},
	} {
		order, is, err := Equal(sys(t, row.a...), sys(t, row.b...))
		if is != row.is {
			t.Errorf("Equal: %s: got %v", row.what, is)
		}
		expectList(t, "Equal: "+row.what, order, err, row.order, api.OK)
	}
	for _, row := range []struct {
		what string
		a, b api.System
		is   bool
		want api.Errno
	}{
		{"6 variables", wide(6), wide(6), true, api.OK}, {"7 variables", wide(7), wide(7), false, api.ErrLimit}, {"24 variables", wide(24), wide(24), false, api.ErrLimit}, {"7 and 8 variables", wide(7), wide(8), false, api.OK}, {"24 and 1 variables", wide(24), wide(1), false, api.OK},
		{"no first system", api.System{}, api.System{Names: []string{"x"}}, false, api.ErrEmpty}, {"no second system", wide(7), api.System{Names: []string{"x"}}, false, api.ErrShape},
	} {
		order, is, err := Equal(row.a, row.b)
		if is != row.is || err != row.want || !row.is && order != nil {
			t.Errorf("Equal: %s: got %v, %v and the error %d", row.what, order, is, err)
		}
	}
}

// orders returns all orders of the numbers below n, ascending.
func orders(n int) [][]int {
	list := [][]int{nil}
	for range n {
		var longer [][]int
		for _, order := range list {
			for v := range n {
				if !slices.Contains(order, v) {
					longer = append(longer, append(slices.Clone(order), v))
				}
			}
		}
		list = longer
	}
	return list
}

// TestEqualFindsTheFirstOrder has systems with symmetries.
func TestEqualFindsTheFirstOrder(t *testing.T) {
	r := rand.New(rand.NewSource(5))
	rates := []string{"x1 + x2 + x3 + x4", "x1 * x2 * x3 * x4", "t", "x1^2", "x1 * x2"}
	several := 0
	for range 300 {
		n := 3 + r.Intn(2)
		var lines []string
		for i := range n {
			rate := rates[r.Intn(len(rates))]
			for v := n; v < 4; v++ {
				rate = strings.ReplaceAll(rate, "x"+strconv.Itoa(v+1), "x1")
			}
			lines = append(lines, "x"+strconv.Itoa(i+1)+": "+rate+"; "+strconv.Itoa(r.Intn(2)))
		}
		a := sys(t, lines...)
		b := must[api.System](t, "Permute")(Permute(a, r.Perm(n)))
		if r.Intn(4) == 0 {
			b.Start[r.Intn(n)] = span("1")
		}
		var right [][]int
		for _, order := range orders(n) {
			if sameParts(must[api.System](t, "Permute")(Permute(a, order)), b) {
				right = append(right, order)
			}
		}
		order, is, err := Equal(a, b)
		if is != (len(right) > 0) {
			t.Fatalf("Equal of %v and %v: %v, with %d orders", a, b, is, len(right))
		}
		if len(right) == 0 {
			right = [][]int{nil}
		}
		if len(right) > 1 {
			several++
		}
		expectList(t, "Equal", order, err, right[0], api.OK)
	}
	if several < 30 {
		t.Errorf("only %d pairs have several orders", several)
	}
}

// copyOf returns a system that shares no memory with another one.
func copyOf(s api.System) api.System {
	s.Names, s.Rates, s.Start = slices.Clone(s.Names), slices.Clone(s.Rates), slices.Clone(s.Start)
	for i := range s.Rates {
		s.Rates[i] = copyOfPoly(s.Rates[i])
	}
	return s
}

func copyOfPoly(p api.Poly) api.Poly {
	p = slices.Clone(p)
	for i := range p {
		p[i].Powers = slices.Clone(p[i].Powers)
	}
	return p
}

// spoil changes all memory of a system, also behind the ends of its slices.
func spoil(s api.System) {
	for i := range s.Names[:cap(s.Names)] {
		s.Names[:cap(s.Names)][i] = "?"
	}
	for i := range s.Start[:cap(s.Start)] {
		s.Start[:cap(s.Start)][i] = api.Span{}
	}
	for _, p := range s.Rates {
		spoilPoly(p)
	}
	for i := range s.Rates[:cap(s.Rates)] {
		s.Rates[:cap(s.Rates)][i] = nil
	}
}

func spoilPoly(p api.Poly) {
	for i := range p {
		for v := range p[i].Powers[:cap(p[i].Powers)] {
			p[i].Powers[:cap(p[i].Powers)][v] = 99
		}
	}
	for i := range p[:cap(p)] {
		p[:cap(p)][i] = api.Term{}
	}
}

// TestResultsShareNothing changes results, and looks at the arguments.
func TestResultsShareNothing(t *testing.T) {
	s, other, p := web(t), sys(t, "x: x * t; 1"), poly(t, "a * b + t", "a", "b", "c", "d", "e")
	list, order := []int{4}, []int{4, 3, 2, 1, 0}
	s.Names = append(make([]string, 0, 20), s.Names...) // with room behind the end
	s.Rates, s.Start = append(make([]api.Poly, 0, 20), s.Rates...), append(make([]api.Span, 0, 20), s.Start...)
	before, beforeOther, beforeP := copyOf(s), copyOf(other), copyOfPoly(p)
	of := must[api.System](t, "a change")
	for _, change := range []func() api.System{
		func() api.System { return of(Extend(s, "z", p)) }, func() api.System { return of(Autonomous(s, "z")) }, func() api.System { return of(Sub(s, list)) }, func() api.System { return of(Join(s, other)) }, func() api.System { return of(Join(other, s)) }, func() api.System { return of(Permute(s, order)) },
	} {
		again := copyOf(change())
		spoil(change())
		expectSystem(t, "an argument", s, api.OK, before, api.OK)
		expectSystem(t, "an argument", other, api.OK, beforeOther, api.OK)
		expectPolys(t, "an argument", []api.Poly{p}, api.OK, []api.Poly{beforeP}, api.OK)
		expectSystem(t, "a change", change(), api.OK, again, api.OK)
	}
	spoilPoly(must[api.Poly](t, "Lie")(Lie(s, p)))
	needed := must[[]int](t, "Needed")(Needed(s, list))
	needed[0] = 9
	expectSystem(t, "an argument", s, api.OK, before, api.OK)
	expectPolys(t, "an argument", []api.Poly{p}, api.OK, []api.Poly{beforeP}, api.OK)
	expectList(t, "an argument", slices.Concat(list, order), api.OK, []int{4, 4, 3, 2, 1, 0}, api.OK)
	if exact.CheckPoly(p, 5) != api.OK {
		t.Error("an argument is changed")
	}
}
