package enclose

import (
	"math"
	"math/rand"
	"slices"
	"testing"

	"integraph/api"
)

// strange are arguments that are well-formed, nearly so, and not at all.
var (
	strangeInts = []int{0, 1, 2, 3, -1, 12, 13, 16, 17, 64, 65, 1000, 1001, math.MaxInt, math.MinInt}
	strangeRats = []api.Rat{"0", "1", "-1", "1/2", "-3/7", "5", "-0", "", "2/4", "x", digits("9", 600), digits("9", 601), "1/" + digits("7", 600)}
)

func pick[T any](r *rand.Rand, list []T) T { return list[r.Intn(len(list))] }

// mostly returns the first one of two, except now and then.
func mostly[T any](r *rand.Rand, first, second T) T {
	if r.Intn(25) == 0 {
		return second
	}
	return first
}

// strangely changes an element of a list now and then, or the length of the list.
func strangely[T any](r *rand.Rand, list []T, by ...T) []T {
	list = slices.Clone(list)
	switch n := r.Intn(60); {
	case n == 0:
		list = append(list, pick(r, by))
	case n == 1 && len(list) > 0:
		list = list[1:]
	case n < 4 && len(list) > 0:
		list[r.Intn(len(list))] = pick(r, by)
	}
	return list
}

func strangeSpan(r *rand.Rand) api.Span {
	return api.Span{Low: pick(r, strangeRats), High: pick(r, strangeRats)}
}

func strangeBox(r *rand.Rand, n int) []api.Span {
	return strangely(r, someBox(r, n), api.Span{}, strangeSpan(r), strangeSpan(r))
}

func strangePoly(t *testing.T, r *rand.Rand, n int) api.Poly {
	return strangely(r, somePoly(t, r, n, 2), api.Term{}, api.Term{Factor: pick(r, strangeRats), Powers: make([]int, n+1)}, api.Term{Factor: "1", Powers: []int{pick(r, strangeInts), 1}})
}

func strangeSystem(t *testing.T, r *rand.Rand) api.System {
	s := someSystem(t, r)
	if r.Intn(3) == 0 {
		s = circling(r)
	}
	n := len(s.Names)
	return api.System{
		Names: strangely(r, s.Names, "", "x", "?"),
		Rates: strangely(r, s.Rates, nil, strangePoly(t, r, n), strangePoly(t, r, 1)),
		Start: strangely(r, s.Start, api.Span{}, strangeSpan(r)),
	}
}

// strangeTube returns boxes, now and then those of a tube.
func strangeTube(t *testing.T, r *rand.Rand, s api.System, ends []api.Rat) []api.Box {
	tube, err := Tube(s, ends, 2, 8)
	if err != api.OK || r.Intn(3) == 0 {
		tube = nil
		for _, end := range ends {
			tube = append(tube, api.Box{End: end, Whole: someBox(r, len(s.Names)), Last: someBox(r, len(s.Names))})
		}
	}
	for i := range tube {
		n := len(tube[i].Whole)
		tube[i].End = mostly(r, tube[i].End, pick(r, strangeRats))
		tube[i].Whole = mostly(r, tube[i].Whole, strangeBox(r, n))
		tube[i].Last = mostly(r, tube[i].Last, strangeBox(r, n))
	}
	return strangely(r, tube, api.Box{}, api.Box{End: "1"})
}

// arguments are those of one call of each function.
type arguments struct {
	s           api.System
	at          api.Span
	box, whole  []api.Span
	from, to    api.Rat
	order, bits int
	ends        []api.Rat
	tube, other []api.Box
	p           api.Poly
}

func strangeArguments(t *testing.T, r *rand.Rand) arguments {
	s := strangeSystem(t, r)
	n := len(s.Names)
	a := arguments{
		s: s, at: mostly(r, someSpan(r), strangeSpan(r)), box: strangeBox(r, n), whole: strangeBox(r, n),
		from: mostly(r, "1/3", pick(r, strangeRats)), to: mostly(r, "3/8", pick(r, strangeRats)),
		order: mostly(r, 1+r.Intn(3), pick(r, strangeInts)), bits: mostly(r, r.Intn(12), pick(r, strangeInts)),
		ends: strangely(r, someEnds(r), strangeRats...), p: strangePoly(t, r, n),
	}
	a.tube, a.other = strangeTube(t, r, s, a.ends), strangeTube(t, r, s, a.ends)
	if n == 2 && r.Intn(2) == 0 {
		a.p = energy()
	}
	return a
}

// copyOf returns arguments that share no memory.
func (a arguments) copyOf() arguments {
	a.s.Names, a.s.Start, a.s.Rates = slices.Clone(a.s.Names), slices.Clone(a.s.Start), slices.Clone(a.s.Rates)
	for i, p := range a.s.Rates {
		a.s.Rates[i] = copyOfPoly(p)
	}
	a.box, a.whole, a.ends = slices.Clone(a.box), slices.Clone(a.whole), slices.Clone(a.ends)
	a.tube, a.other, a.p = copyOfTube(a.tube), copyOfTube(a.other), copyOfPoly(a.p)
	return a
}

func copyOfPoly(p api.Poly) api.Poly {
	p = slices.Clone(p)
	for i, t := range p {
		p[i].Powers = slices.Clone(t.Powers)
	}
	return p
}

func samePoly(p, q api.Poly) bool {
	return slices.EqualFunc(p, q, func(a, b api.Term) bool { return a.Factor == b.Factor && slices.Equal(a.Powers, b.Powers) })
}

// isSame reports whether arguments are what they have been.
func (a arguments) isSame(b arguments) bool {
	return slices.Equal(a.s.Names, b.s.Names) && slices.Equal(a.s.Start, b.s.Start) && slices.EqualFunc(a.s.Rates, b.s.Rates, samePoly) &&
		slices.Equal(a.box, b.box) && slices.Equal(a.whole, b.whole) && slices.Equal(a.ends, b.ends) && samePoly(a.p, b.p) &&
		slices.EqualFunc(a.tube, b.tube, sameBox) && slices.EqualFunc(a.other, b.other, sameBox)
}

// scratch spoils a list, and what is behind its end: what shares memory with it would change.
func scratch[T any](list []T) { clear(list[:cap(list)]) }

// scratchTube spoils boxes.
func scratchTube(tube []api.Box) {
	for _, b := range tube {
		scratch(b.Whole)
		scratch(b.Last)
	}
	scratch(tube)
}

// calls are those of all functions: each returns its error, and whether its result is zero, and spoils the result.
func calls() map[string]func(a arguments) (api.Errno, bool) {
	ofBox := func(box []api.Span, err api.Errno) (api.Errno, bool) {
		isZero := box == nil
		scratch(box)
		return err, isZero
	}
	ofRats := func(list []api.Rat, err api.Errno) (api.Errno, bool) {
		isZero := list == nil
		scratch(list)
		return err, isZero
	}
	ofTube := func(tube []api.Box, err api.Errno) (api.Errno, bool) {
		isZero := tube == nil
		scratchTube(tube)
		return err, isZero
	}
	ofBool := func(is bool, err api.Errno) (api.Errno, bool) { return err, !is }
	return map[string]func(a arguments) (api.Errno, bool){
		"CheckBox": func(a arguments) (api.Errno, bool) { return CheckBox(a.s, a.box), true },
		"Series": func(a arguments) (api.Errno, bool) {
			series, err := Series(a.s, a.at, a.box, a.order)
			isZero := series == nil
			for _, list := range series {
				scratch(list)
			}
			scratch(series)
			return err, isZero
		},
		"Picard": func(a arguments) (api.Errno, bool) { return ofBox(Picard(a.s, a.from, a.box, a.to, a.bits)) },
		"IsGood": func(a arguments) (api.Errno, bool) { return ofBool(IsGood(a.s, a.from, a.box, a.to, a.whole)) },
		"Taylor": func(a arguments) (api.Errno, bool) { return ofBox(Taylor(a.s, a.from, a.box, a.to, a.whole, a.order)) },
		"Step": func(a arguments) (api.Errno, bool) {
			b, err := Step(a.s, a.from, a.box, a.to, a.order, a.bits)
			isZero := sameBox(b, api.Box{})
			scratchTube([]api.Box{b})
			return err, isZero
		},
		"Grid":      func(a arguments) (api.Errno, bool) { return ofRats(Grid(a.to, a.bits)) },
		"Tube":      func(a arguments) (api.Errno, bool) { return ofTube(Tube(a.s, a.ends, a.order, a.bits)) },
		"CheckTube": func(a arguments) (api.Errno, bool) { return CheckTube(a.s, a.tube, a.order), true },
		"At":        func(a arguments) (api.Errno, bool) { return ofBox(At(a.s, a.tube, a.from)) },
		"At 0":      func(a arguments) (api.Errno, bool) { return ofBox(At(a.s, a.tube, "0")) },
		"At an end": func(a arguments) (api.Errno, bool) { return ofBox(At(a.s, a.tube, append(a.ends, "")[0])) },
		"Range":     func(a arguments) (api.Errno, bool) { return ofBox(Range(a.s, a.tube)) },
		"Widths":    func(a arguments) (api.Errno, bool) { return ofRats(Widths(a.s, a.tube)) },
		"Meet":      func(a arguments) (api.Errno, bool) { return ofTube(Meet(a.s, a.tube, a.other)) },
		"Speeds":    func(a arguments) (api.Errno, bool) { return ofRats(Speeds(a.s, a.at, a.box)) },
		"Lipschitz": func(a arguments) (api.Errno, bool) {
			bound, err := Lipschitz(a.s, a.at, a.box)
			return err, bound == ""
		},
		"Keeps": func(a arguments) (api.Errno, bool) { return ofBool(Keeps(a.s, a.p, a.tube)) },
	}
}

// TestAny calls each function with strange arguments (P1): none panics, no result stands beside an error, and neither
// they nor what is done with their results changes an argument.
func TestAny(t *testing.T) {
	r := rand.New(rand.NewSource(13))
	right, wrong := map[string]int{}, map[string]int{}
	for range 3000 {
		a := strangeArguments(t, r)
		before := a.copyOf()
		for name, call := range calls() {
			err, isZero := call(a)
			if err != api.OK && !isZero {
				t.Errorf("%s: a result beside the error %d", name, err)
			}
			if err == api.OK {
				right[name]++
			} else {
				wrong[name]++
			}
			if !a.isSame(before) {
				t.Fatalf("%s: an argument is changed", name)
			}
		}
	}
	for name := range calls() {
		if right[name] < 100 || wrong[name] < 100 {
			t.Errorf("%s has %d results and %d errors", name, right[name], wrong[name])
		}
	}
}

// TestNothingIsShared spoils each list of a result, which changes no other one.
func TestNothingIsShared(t *testing.T) {
	listsOf := func(tube []api.Box, err api.Errno) [][]api.Span {
		expectError(t, "a tube", err, api.OK)
		var lists [][]api.Span
		for _, b := range tube {
			lists = append(lists, b.Whole, b.Last)
		}
		return lists
	}
	s := still("0", "1")
	tube := must[[]api.Box](t)(Tube(s, []api.Rat{"1", "2"}, 1, 0))
	for _, call := range []func() [][]api.Span{
		func() [][]api.Span { return listsOf(Tube(s, []api.Rat{"1", "2"}, 1, 0)) },
		func() [][]api.Span { return listsOf(Meet(s, tube, tube)) },
		func() [][]api.Span {
			b, err := Step(s, "0", s.Start, "1", 1, 0)
			return listsOf([]api.Box{b}, err)
		},
		func() [][]api.Span {
			return must[[][]api.Span](t)(Series(circle(), span("0", "0"), circle().Start, 3))
		},
	} {
		lists, again := call(), call()
		for i := range lists {
			scratch(lists[i])
			for j := i + 1; j < len(lists); j++ {
				if !slices.Equal(lists[j], again[j]) {
					t.Errorf("the lists %d and %d share memory", i, j)
				}
			}
		}
	}
}
