package enclose

import (
	"math/big"
	"math/rand"
	"slices"
	"strconv"
	"testing"

	"integraph/api"
)

// The tests of this file are those of P8.3 and P8.4.

func TestGrid(t *testing.T) {
	long := digits("9", 600)
	for _, row := range []struct {
		end  api.Rat
		n    int
		want []api.Rat
		err  api.Errno
	}{
		{"1", 1, []api.Rat{"1"}, api.OK}, {"1", 4, []api.Rat{"1/4", "1/2", "3/4", "1"}, api.OK}, {"10/3", 3, []api.Rat{"10/9", "20/9", "10/3"}, api.OK}, {long, 1, []api.Rat{long}, api.OK}, {long, 3, []api.Rat{digits("3", 600), digits("6", 600), long}, api.OK},
		{"x", 0, nil, api.ErrForm}, {"2/4", 1, nil, api.ErrForm}, {"9" + long, 1, nil, api.ErrLarge}, {"0", 1, nil, api.ErrRange}, {"-1", 1, nil, api.ErrRange}, {"1", 0, nil, api.ErrRange}, {"1", -1, nil, api.ErrRange}, {"1", 1001, nil, api.ErrRange},
		{"1/" + long, 2, nil, api.ErrLarge}, {long, 17, nil, api.ErrLarge},
	} {
		got, err := Grid(row.end, row.n)
		expectList(t, "Grid to "+string(row.end), got, err, row.want, row.err)
	}
	ends := must[[]api.Rat](t)(Grid("7/2", 1000))
	for k, end := range ends {
		if want := ratOf(big.NewRat(7*int64(k+1), 2000)); end != want {
			t.Errorf("the end %d is %s, want %s", k, end, want)
		}
	}
	if len(ends) != 1000 {
		t.Errorf("there are %d ends", len(ends))
	}
}

func TestTube(t *testing.T) {
	got, err := Tube(growth(), []api.Rat{"1/2", "1"}, 1, 2)
	expectTube(t, "Tube of growth", got, err, growthTube(), api.OK)
	got, err = Tube(growth(), nil, 1, 2)
	expectTube(t, "Tube without steps", got, err, nil, api.OK)
	got, err = Tube(square(), []api.Rat{"1/8", "1/4", "2"}, 2, 10)
	expectTube(t, "Tube with a step that has no trial box", got, err, nil, api.ErrStep)
	got, err = Tube(still("1/3", "1/2"), []api.Rat{"5", "15/2"}, 16, 1)
	expectTube(t, "Tube of what stands still", got, err, []api.Box{{End: "5", Whole: box("0", "1/2"), Last: box("0", "1/2")}, {End: "15/2", Whole: box("0", "1/2"), Last: box("0", "1/2")}}, api.OK)
	many := must[[]api.Rat](t)(Grid("1000", 1000))
	got, err = Tube(still("2", "3"), many, 1, 0)
	if err != api.OK || len(got) != 1000 || !sameBox(got[999], api.Box{End: "1000", Whole: box("2", "3"), Last: box("2", "3")}) {
		t.Errorf("Tube of a thousand steps has %d, and the error %d", len(got), err)
	}
	for _, row := range []struct {
		what        string
		s           api.System
		ends        []api.Rat
		order, bits int
		want        api.Errno
	}{
		{"a wrong system", api.System{}, []api.Rat{"x"}, 0, 65, api.ErrEmpty}, {"1001 ends", growth(), append([]api.Rat{"x"}, many...), 0, 65, api.ErrMany}, {"no number", growth(), []api.Rat{"1", ""}, 0, 65, api.ErrForm}, {"a long end", growth(), []api.Rat{"1", digits("9", 601)}, 0, 65, api.ErrLarge},
		{"the end 0", growth(), []api.Rat{"0", "x"}, 0, 65, api.ErrOrder}, {"an end below 0", growth(), []api.Rat{"-1", "1"}, 0, 65, api.ErrOrder}, {"an end twice", growth(), []api.Rat{"1/2", "1/2"}, 0, 65, api.ErrOrder}, {"an end below the one before", growth(), []api.Rat{"1/2", "1/3"}, 0, 65, api.ErrOrder},
		{"the order 0", growth(), nil, 0, 65, api.ErrRange}, {"the order 17", growth(), nil, 17, 2, api.ErrRange}, {"the bits 65", growth(), nil, 1, 65, api.ErrRange}, {"the bits -1", growth(), []api.Rat{"9"}, 16, -1, api.ErrRange}, {"the least and the greatest", growth(), nil, 16, 64, api.OK}, {"a step too far", growth(), []api.Rat{"9"}, 16, 64, api.ErrStep},
	} {
		got, err := Tube(row.s, row.ends, row.order, row.bits)
		expectTube(t, "Tube: "+row.what, got, err, nil, row.want)
	}
}

// TestLargeTubes has a box with an end that is too long: in the last step, and in front of a step that has none because
// of it.
func TestLargeTubes(t *testing.T) {
	s, _ := nearlyLong()
	got, err := Tube(s, []api.Rat{"1"}, 1, 1)
	expectTube(t, "Tube with a long box", got, err, nil, api.ErrLarge)
	got, err = Tube(s, []api.Rat{"1", "2"}, 1, 1)
	expectTube(t, "Tube with a long box in front", got, err, nil, api.ErrStep)
}

func TestCheckTube(t *testing.T) {
	expectError(t, "CheckTube of growth", CheckTube(growth(), growthTube(), 1), api.OK)
	expectError(t, "CheckTube of no boxes", CheckTube(growth(), nil, 16), api.OK)
	// 1 to 2 is good for the step to 1/2, and then the solution is from 13/8 to 7/4
	exactly := []api.Box{{End: "1/2", Whole: box("1", "2"), Last: box("13/8", "7/4")}, {End: "1", Whole: box("13/8", "7/2"), Last: box("169/64", "49/16")}}
	expectError(t, "CheckTube of a narrow one", CheckTube(growth(), exactly, 1), api.OK)
	for _, row := range []struct {
		what   string
		change func(tube []api.Box)
	}{
		{"a narrower box at the low end", func(tube []api.Box) { tube[0].Whole[0].Low = "17/16" }}, {"a narrower box at the high end", func(tube []api.Box) { tube[0].Whole[0].High = "31/16" }},
		{"a narrower last one at the low end", func(tube []api.Box) { tube[0].Last[0].Low = "27/16" }}, {"a narrower last one at the high end", func(tube []api.Box) { tube[0].Last[0].High = "27/16" }}, {"a wider last one, from which the next step is not good", func(tube []api.Box) { tube[0].Last[0].Low = "3/2" }},
		{"a longer step", func(tube []api.Box) { tube[0].End = "9/16" }}, {"a longer last step", func(tube []api.Box) { tube[1].End = "9/8" }}, {"a second box that is not good", func(tube []api.Box) { tube[1].Whole[0].High = "27/8" }}, {"a second last one", func(tube []api.Box) { tube[1].Last[0].High = "3" }},
	} {
		tube := copyOfTube(exactly)
		row.change(tube)
		expectError(t, "CheckTube: "+row.what, CheckTube(growth(), tube, 1), api.ErrProof)
	}
	narrow := []api.Box{{End: "1/2", Whole: box("1", "2"), Last: box("79/48", "5/3")}}
	expectError(t, "CheckTube of a tube of the order 2", CheckTube(growth(), narrow, 2), api.OK)
	expectError(t, "CheckTube of it with the order 1", CheckTube(growth(), narrow, 1), api.ErrProof)
	expectError(t, "CheckTube of the tube of another start", CheckTube(systemOf(box("1", "5/4"), growth().Rates...), exactly, 1), api.ErrProof)
	expectError(t, "CheckTube of a narrower start", CheckTube(systemOf(box("1", "1"), growth().Rates...), growthTube(), 1), api.OK)
	expectError(t, "CheckTube: the order 0", CheckTube(growth(), exactly[1:], 0), api.ErrRange)
	expectError(t, "CheckTube: the order 17", CheckTube(growth(), exactly[1:], 17), api.ErrRange)
}

// tubeCalls are the calls that read a tube, with nothing else that is wrong: for the system of growth, and a tube.
func tubeCalls() map[string]func(s api.System, tube []api.Box) (bool, api.Errno) {
	return map[string]func(s api.System, tube []api.Box) (bool, api.Errno){
		"CheckTube": func(s api.System, tube []api.Box) (bool, api.Errno) { return true, CheckTube(s, tube, 0) },
		"At": func(s api.System, tube []api.Box) (bool, api.Errno) {
			box, err := At(s, tube, "x")
			return box == nil, err
		},
		"Range": func(s api.System, tube []api.Box) (bool, api.Errno) {
			box, err := Range(s, tube)
			return box == nil, err
		},
		"Widths": func(s api.System, tube []api.Box) (bool, api.Errno) {
			widths, err := Widths(s, tube)
			return widths == nil, err
		},
		"Meet": func(s api.System, tube []api.Box) (bool, api.Errno) {
			both, err := Meet(s, tube, []api.Box{{}})
			return both == nil, err
		},
		"Meet, the second one": func(s api.System, tube []api.Box) (bool, api.Errno) {
			both, err := Meet(s, nil, tube)
			return both == nil, err
		},
		"Keeps": func(s api.System, tube []api.Box) (bool, api.Errno) {
			is, err := Keeps(s, api.Poly{term("1", 0, 1)}, tube) // no first integral
			return !is, err
		},
	}
}

func TestErrorsOfTubes(t *testing.T) {
	long := digits("9", 601)
	many := make([]api.Box, 1001)
	for i := range 1000 {
		many[i+1] = api.Box{End: api.Rat(strconv.Itoa(i + 1)), Whole: box("1", "1"), Last: box("1", "1")}
	}
	for _, row := range []struct {
		what   string
		s      api.System
		change func(tube []api.Box) []api.Box
		want   api.Errno
	}{
		{"a wrong system", api.System{}, func(tube []api.Box) []api.Box { return many }, api.ErrEmpty}, {"1001 boxes", growth(), func(tube []api.Box) []api.Box { return many }, api.ErrMany},
		{"no end", growth(), func(tube []api.Box) []api.Box { tube[0].End = ""; return tube }, api.ErrForm}, {"a long end", growth(), func(tube []api.Box) []api.Box { tube[1].End = long; return tube }, api.ErrLarge}, {"the end 0", growth(), func(tube []api.Box) []api.Box { tube[0].End, tube[0].Whole = "0", nil; return tube }, api.ErrOrder}, {"an end below 0", growth(), func(tube []api.Box) []api.Box { tube[0].End = "-1"; return tube }, api.ErrOrder}, {"an end twice", growth(), func(tube []api.Box) []api.Box { tube[1].End = "1/2"; return tube }, api.ErrOrder}, {"ends that descend", growth(), func(tube []api.Box) []api.Box { tube[1].End = "1/3"; return tube }, api.ErrOrder},
		{"no Whole", growth(), func(tube []api.Box) []api.Box { tube[0].Whole, tube[0].Last = nil, box("x", "1"); return tube }, api.ErrShape}, {"a wrong Whole", growth(), func(tube []api.Box) []api.Box { tube[1].Whole, tube[1].Last = box("2", "1"), nil; return tube }, api.ErrOrder}, {"a long Whole", growth(), func(tube []api.Box) []api.Box { tube[1].Whole[0].High = long; return tube }, api.ErrLarge},
		{"two spans in Last", growth(), func(tube []api.Box) []api.Box { tube[0].Last = box("1", "1", "1", "1"); return tube }, api.ErrShape}, {"a wrong Last", growth(), func(tube []api.Box) []api.Box { tube[1].Last = box("1", "1/1"); return tube }, api.ErrForm},
		{"the first box with an error", growth(), func(tube []api.Box) []api.Box { tube[0].Last, tube[1].End = nil, "x"; return tube }, api.ErrShape},
	} {
		for name, call := range tubeCalls() {
			isZero, err := call(row.s, row.change(growthTube()))
			expectError(t, name+": "+row.what, err, row.want)
			if !isZero {
				t.Errorf("%s: %s: a result beside the error %d", name, row.what, err)
			}
		}
	}
	if widths, err := Widths(growth(), many[1:]); err != api.OK || len(widths) != 1000 {
		t.Errorf("Widths of 1000 boxes: the error %d", err)
	}
}

func TestAt(t *testing.T) {
	s, tube := systemOf(box("7", "8"), growth().Rates...), growthTube()
	for _, row := range []struct {
		tube []api.Box
		t    api.Rat
		want []api.Span
		err  api.Errno
	}{
		{tube, "0", box("7", "8"), api.OK}, {tube, "1/100", box("1", "9/4"), api.OK}, {tube, "1/2", box("3/2", "2"), api.OK}, {tube, "51/100", box("3/2", "17/4"), api.OK}, {tube, "99/100", box("3/2", "17/4"), api.OK}, {tube, "1", box("9/4", "15/4"), api.OK},
		{tube, "-1/100", nil, api.ErrRange}, {tube, "101/100", nil, api.ErrRange}, {tube, "", nil, api.ErrForm}, {tube, digits("9", 601), nil, api.ErrLarge}, {nil, "0", box("7", "8"), api.OK}, {nil, "1/100", nil, api.ErrRange}, {nil, "-1", nil, api.ErrRange}, {tube[1:], "1/2", box("3/2", "17/4"), api.OK},
	} {
		got, err := At(s, row.tube, row.t)
		expectList(t, "At "+string(row.t), got, err, row.want, row.err)
	}
}

func TestRange(t *testing.T) {
	got, err := Range(growth(), growthTube())
	expectList(t, "Range of growth", got, err, box("1", "17/4"), api.OK)
	s := systemOf(box("-7", "1", "5", "5"), nil, nil)
	got, err = Range(s, nil)
	expectList(t, "Range of no boxes", got, err, box("-7", "1", "5", "5"), api.OK)
	tube := []api.Box{{End: "1", Whole: box("0", "1/2", "0", "0"), Last: box("2", "3", "5", "5")}, {End: "2", Whole: box("-8", "0", "1", "1"), Last: box("0", "0", "1", "11/2")}}
	got, err = Range(s, tube)
	expectList(t, "Range of what is no tube", got, err, box("-8", "3", "0", "11/2"), api.OK)
}

func TestWidths(t *testing.T) {
	got, err := Widths(growth(), growthTube())
	expectList(t, "Widths of growth", got, err, []api.Rat{"1/2", "3/2"}, api.OK)
	got, err = Widths(growth(), nil)
	expectList(t, "Widths of no boxes", got, err, nil, api.OK)
	s := systemOf(box("0", "9", "0", "9", "0", "9"), nil, nil, nil)
	tube := []api.Box{{End: "1", Whole: box("0", "99", "0", "99", "0", "99"), Last: box("1/3", "1/2", "-1", "-1/2", "8", "8")}, {End: "2", Whole: s.Start, Last: box("1", "1", "2", "2", "3", "3")}, {End: "3", Whole: s.Start, Last: box("1", "5/3", "2", "2", "3", "3")}}
	got, err = Widths(s, tube)
	expectList(t, "Widths", got, err, []api.Rat{"1/2", "0", "2/3"}, api.OK)
	long := digits("9", 600)
	got, err = Widths(growth(), []api.Box{{End: "1", Whole: box("1", "1"), Last: box("-1", long)}})
	expectList(t, "Widths that are too long", got, err, nil, api.ErrLarge)
	got, err = Widths(growth(), []api.Box{{End: "1", Whole: box("-1", long), Last: box("0", long)}})
	expectList(t, "Widths that are not too long", got, err, []api.Rat{long}, api.OK)
}

func TestMeet(t *testing.T) {
	s := systemOf(box("0", "0", "0", "0"), nil, nil)
	tube := func(ends ...api.Rat) []api.Box {
		return []api.Box{{End: "1/2", Whole: box("0", "2", "0", "9"), Last: box("1", "2", "4", "5")}, {End: "1", Whole: box(ends[:4]...), Last: box(ends[4:]...)}}
	}
	a := tube("0", "5", "1/2", "3", "2", "3", "0", "0")
	for _, row := range []struct {
		what    string
		b, want []api.Box
		err     api.Errno
	}{
		{"itself", a, a, api.OK}, {"a part", tube("2", "3", "3/4", "1", "5/2", "5/2", "0", "0"), tube("2", "3", "3/4", "1", "5/2", "5/2", "0", "0"), api.OK}, {"what is around it", tube("-1", "6", "0", "4", "1", "4", "-1", "1"), a, api.OK}, {"parts in common", tube("-1", "3", "2", "4", "1", "2", "0", "1"), tube("0", "3", "2", "3", "2", "2", "0", "0"), api.OK},
		{"nothing in common in Whole", tube("0", "5", "4", "5", "2", "3", "0", "0"), nil, api.ErrConflict}, {"nothing below it", tube("-2", "-1", "1/2", "3", "2", "3", "0", "0"), nil, api.ErrConflict}, {"nothing in common in Last", tube("0", "5", "1/2", "3", "2", "3", "1/9", "1"), nil, api.ErrConflict},
		{"a box less", a[:1], nil, api.ErrShape}, {"no boxes", nil, nil, api.ErrShape},
	} {
		got, err := Meet(s, a, row.b)
		expectTube(t, "Meet: "+row.what, got, err, row.want, row.err)
		got, err = Meet(s, row.b, a)
		expectTube(t, "Meet, the other way round: "+row.what, got, err, row.want, row.err)
	}
	other := tube("7", "8", "1/2", "3", "2", "3", "0", "0")
	other[1].End = "2"
	_, err := Meet(s, a, other)
	expectError(t, "Meet with another end in front of nothing in common", err, api.ErrOrder)
	other[1].End, other[0].Whole = "2", box("7", "8", "7", "8")
	_, err = Meet(s, a, other)
	expectError(t, "Meet with another end behind nothing in common", err, api.ErrOrder)
	got, err := Meet(s, nil, nil)
	expectTube(t, "Meet of nothing", got, err, nil, api.OK)
	_, err = Meet(s, append(copyOfTube(a), api.Box{}), []api.Box{{End: "x"}})
	expectError(t, "Meet: the first tube comes first", err, api.ErrForm)
	_, err = Meet(s, []api.Box{{End: "1"}}, []api.Box{{End: "x"}})
	expectError(t, "Meet: the shape of the first one", err, api.ErrShape)
}

// TestTubesAsDefined compares tubes, and changed ones, with what the definitions give.
func TestTubesAsDefined(t *testing.T) {
	r := rand.New(rand.NewSource(4))
	found, accepted := 0, map[bool]int{}
	for range 400 {
		s, ends, order, bits := someSystem(t, r), someEnds(r), 1+r.Intn(3), 2+r.Intn(8)
		want, ok := tubeOf(s, ends, order, bits)
		got, err := Tube(s, ends, order, bits)
		if !ok {
			expectTube(t, "Tube", got, err, nil, api.ErrStep)
			continue
		}
		found++
		expectTube(t, "Tube", got, err, want, api.OK)
		for range 3 {
			tube := copyOfTube(got)
			b := &tube[r.Intn(len(tube))]
			list := [][]api.Span{b.Whole, b.Last}[r.Intn(2)]
			at := r.Intn(len(list))
			move := big.NewRat(int64(1+r.Intn(9)), int64(1)<<(bits+r.Intn(5)))
			low, high := bigOf(list[at].Low), bigOf(list[at].High)
			if r.Intn(2) == 0 {
				low.Add(low, move)
			} else {
				high.Sub(high, move)
			}
			if low.Cmp(high) > 0 {
				continue
			}
			list[at] = span(ratOf(low), ratOf(high))
			wantError := api.ErrProof
			if isTube(s, tube, order) {
				wantError = api.OK
			}
			accepted[wantError == api.OK]++
			expectError(t, "CheckTube of a changed tube", CheckTube(s, tube, order), wantError)
		}
	}
	if found < 150 || accepted[true] < 50 || accepted[false] < 50 {
		t.Errorf("there are %d tubes, and of changed ones %v", found, accepted)
	}
}

// TestUsesAsDefined has times, ranges and common parts of any boxes, which need be no tubes.
func TestUsesAsDefined(t *testing.T) {
	r := rand.New(rand.NewSource(5))
	meeting := 0
	for range 400 {
		n := 1 + r.Intn(3)
		s := systemOf(someBox(r, n), make([]api.Poly, n)...)
		var a, b []api.Box
		for i := range r.Intn(4) {
			end := ratOf(big.NewRat(int64(i+1), 3))
			a = append(a, api.Box{End: end, Whole: someBox(r, n), Last: someBox(r, n)})
			b = append(b, api.Box{End: end, Whole: mostlyMeeting(r, a[i].Whole), Last: mostlyMeeting(r, a[i].Last)})
		}
		all := [][]api.Span{s.Start}
		for _, x := range a {
			all = append(all, x.Whole, x.Last)
		}
		hull := must[[]api.Span](t)(Range(s, a))
		for i, h := range hull {
			var ends []*big.Rat
			for _, list := range all {
				ends = append(ends, bigOf(list[i].Low), bigOf(list[i].High))
			}
			if want := hullOf(ends...).span(); h != want {
				t.Errorf("the span %d of Range is %v, want %v", i, h, want)
			}
		}
		for k := range 2*len(a) + 1 {
			at := must[[]api.Span](t)(At(s, a, ratOf(big.NewRat(int64(k), 6))))
			// the order of Start, Whole, Last, Whole, Last, .. is that of the times
			if !slices.Equal(at, all[k]) {
				t.Errorf("At %d/6 is %v, want %v", k, at, all[k])
			}
		}
		want, meet := common(a, b)
		both, err := Meet(s, a, b)
		if !meet {
			expectTube(t, "Meet", both, err, nil, api.ErrConflict)
			continue
		}
		expectTube(t, "Meet", both, err, want, api.OK)
		meeting += len(a)
	}
	if meeting < 100 {
		t.Errorf("only %d meet", meeting)
	}
}

// mostlyMeeting returns a box whose spans begin in those of another one, except now and then.
func mostlyMeeting(r *rand.Rand, list []api.Span) []api.Span {
	other := someBox(r, len(list))
	for i, s := range list {
		if r.Intn(30) > 0 {
			a := wideOf(s)
			low := new(big.Rat).Mul(a.width(), big.NewRat(int64(r.Intn(4)), 3))
			low.Add(low, a[0])
			other[i] = span(ratOf(low), ratOf(new(big.Rat).Add(low, big.NewRat(int64(r.Intn(3)), 3))))
		}
	}
	return other
}

// common returns what boxes have in common, and whether all of their spans have anything.
func common(a, b []api.Box) ([]api.Box, bool) {
	all := true
	both := func(x, y []api.Span) []api.Span {
		var list []api.Span
		for i := range x {
			v, w := wideOf(x[i]), wideOf(y[i])
			low, high := hullOf(v[0], w[0])[1], hullOf(v[1], w[1])[0]
			all = all && low.Cmp(high) <= 0
			list = append(list, span(ratOf(low), ratOf(high)))
		}
		return list
	}
	var boxes []api.Box
	for i, x := range a {
		boxes = append(boxes, api.Box{End: x.End, Whole: both(x.Whole, b[i].Whole), Last: both(x.Last, b[i].Last)})
	}
	return boxes, all
}
