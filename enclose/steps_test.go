package enclose

import (
	"math/big"
	"math/rand"
	"strings"
	"testing"

	"integraph/api"
)

// The tests of this file are those of P8.2.

func TestPicard(t *testing.T) {
	one := box("1", "1")
	for _, row := range []struct {
		what string
		s    api.System
		from api.Rat
		box  []api.Span
		to   api.Rat
		bits int
		want []api.Span
		err  api.Errno
	}{
		{"growth", growth(), "0", one, "1/2", 2, box("1", "9/4"), api.OK}, {"the same step later", growth(), "-7/3", one, "-11/6", 2, box("1", "9/4"), api.OK},
		{"what stands still", still("5", "6"), "0", box("1/3", "2/3"), "9", 2, box("1/4", "3/4"), api.OK}, {"what stands still, without bits", still("5", "6"), "0", box("1/3", "2/3"), "9", 0, box("0", "1"), api.OK},
		{"a solution that does not exist so long", square(), "0", one, "2", 2, nil, api.ErrStep}, {"one that does not exist at the end", square(), "0", one, "1", 64, nil, api.ErrStep}, {"one that exists", square(), "0", one, "1/8", 3, box("1", "5/4"), api.OK},
		{"t", systemOf(one, api.Poly{term("2", 1, 0)}), "1", one, "2", 0, box("1", "5"), api.OK},
		{"a square, which is from 0 on", systemOf(one, api.Poly{term("1/2", 0, 2)}), "0", box("-1", "1"), "1/8", 2, box("-1", "5/4"), api.OK},
	} {
		got, err := Picard(row.s, row.from, row.box, row.to, row.bits)
		expectList(t, "Picard: "+row.what, got, err, row.want, row.err)
	}
}

// TestTrialsEnd has steps that take 12 trials, and some that would take more.
func TestTrialsEnd(t *testing.T) {
	trials := map[int]int{}
	for n := range 400 {
		to := ratOf(big.NewRat(int64(n+20), int64(n+21)))
		want, trial := trialOf(growth(), new(big.Rat), bigOf(to), widesOf(box("1", "1")), 20)
		trials[trial]++
		wantError := api.OK
		if trial == 0 {
			wantError = api.ErrStep
		}
		got, err := Picard(growth(), "0", box("1", "1"), to, 20)
		expectList(t, "Picard of growth from 0 to "+string(to), got, err, spansOf(want), wantError)
	}
	if trials[11] == 0 || trials[12] == 0 || trials[0] == 0 {
		t.Errorf("the numbers of the trials are %v", trials)
	}
}

// TestLongTrials has ends at the limit of MaxDigits.
func TestLongTrials(t *testing.T) {
	long := digits("9", 600)
	third := "1" + digits("0", 598) + "1/3" // 33..3 2/3
	for _, row := range []struct {
		what     string
		low      api.Rat
		high     api.Rat
		bits     int
		want     []api.Span
		wantStep api.Errno
	}{
		{"a long number on each grid", "-" + long, long, 64, box("-"+long, long), api.OK},
		{"a long number on none", third, third, 64, nil, api.ErrStep}, {"one on a grid of few bits", third, third, 1, box(digits("6", 598)+"7/2", digits("3", 598)+"4"), api.OK},
		{"a long number at the low end", "-" + long + "/2", "0", 0, box("-5"+digits("0", 599), "0"), api.OK}, {"one that becomes longer by rounding", "-" + long + "/17", "0", 64, nil, api.ErrStep}, {"at the high end", "0", long + "/17", 64, nil, api.ErrStep},
	} {
		got, err := Picard(still("0", "0"), "0", box(row.low, row.high), "1", row.bits)
		expectList(t, "Picard: "+row.what, got, err, row.want, row.wantStep)
	}
}

// nearlyLong is a system, with a box, whose trial box from 0 to 1 with 1 bit has an end with 601 digits, but no box that
// is tried has: these are from P to P + 1, and then from P - 1 to P + 2, but N goes up to P + 51/40.
func nearlyLong() (api.System, []api.Span) {
	big := "9" + digits("0", 599)
	start := box(big, big, "1/4", "1/4")
	return systemOf(start, api.Poly{term("1/4", 0, 0, 1), term("9/10", 0, 0, 0)}, nil), start
}

func TestLargeBoxes(t *testing.T) {
	s, start := nearlyLong()
	got, err := Picard(s, "0", start, "1", 1)
	expectList(t, "Picard of a long box", got, err, nil, api.ErrLarge)
	b, err := Step(s, "0", start, "1", 1, 1)
	expectTube(t, "Step of a long box", []api.Box{b}, err, make([]api.Box, 1), api.ErrLarge)
	// with no bits it is from P to P + 2
	big := strings.Repeat("0", 598)
	got, err = Picard(s, "0", start, "1", 0)
	expectList(t, "Picard of a box that is not too long", got, err, box(api.Rat("90"+big), api.Rat("90"+big[1:]+"2"), "0", "1"), api.OK)
	got, err = Taylor(growth(), "0", box("1", "1"), "1", box("1", digits("9", 600)), 1)
	expectList(t, "Taylor of a box that is not too long", got, err, nil, api.ErrLarge) // 5/2 to 2 + 9..9 / 2
	got, err = Taylor(growth(), "0", box("1", "1"), "1", box("1", "6"+digits("0", 599)), 1)
	expectList(t, "Taylor of a long box", got, err, box("5/2", "3"+digits("0", 598)+"2"), api.OK)
}

// TestNumbersOnTheWay has results within the limits with longer numbers on the way to them.
func TestNumbersOnTheWay(t *testing.T) {
	great := "1" + digits("0", 300)
	got, err := Taylor(square(), "0", box(great, great), "1/"+great, box("0", great), 16)
	// all spans times their powers of the length are great, and the last one is from 0 to great
	expectList(t, "Taylor with large coefficients", got, err, box("17"+digits("0", 300), "18"+digits("0", 300)), api.OK)
	rate := api.Poly{term(digits("9", 600), 0, 1), term("-"+digits("9", 600), 0, 0)}
	good, err := IsGood(systemOf(box("1", "1"), rate), "0", box("1", "1"), "1", box("-"+digits("9", 600), digits("9", 600)))
	expect(t, "IsGood with long rates", good, err, false, api.OK)
	good, err = IsGood(systemOf(box("1", "1"), rate), "0", box("1", "1"), "1", box("1", "1"))
	expect(t, "IsGood with rates that cancel each other", good, err, true, api.OK)
}

func TestIsGood(t *testing.T) {
	one := box("1", "1")
	for _, row := range []struct {
		what  string
		s     api.System
		from  api.Rat
		box   []api.Span
		to    api.Rat
		whole []api.Span
		want  bool
	}{
		{"from 1 to 2", growth(), "0", one, "1/2", box("1", "2"), true}, {"from 1 to 3/2", growth(), "0", one, "1/2", box("1", "3/2"), false}, {"without the start", growth(), "0", one, "1/2", box("5/4", "3"), false}, {"below the start", growth(), "0", one, "1/2", box("-1/2", "2"), true}, {"far below the start", growth(), "0", one, "1/2", box("-3", "2"), true}, {"too far above it", growth(), "0", one, "2", box("1", "100"), false},
		{"t in the step", systemOf(one, api.Poly{term("1", 1, 0)}), "1", one, "2", box("1", "3"), true}, {"t in the step, too narrow", systemOf(one, api.Poly{term("1", 1, 0)}), "1", one, "2", box("1", "14/5"), false},
		{"a square of both signs", systemOf(one, api.Poly{term("1", 0, 2)}), "0", box("0", "0"), "1/4", box("-1", "1"), true}, {"a square below 0", systemOf(one, api.Poly{term("1", 0, 2)}), "0", box("0", "0"), "1/4", box("0", "1"), true},
		{"one variable that is not", circle(), "0", box("1", "1", "0", "0"), "1/2", box("1/2", "1", "-2/5", "0"), false}, {"both", circle(), "0", box("1", "1", "0", "0"), "1/2", box("3/4", "1", "-1/2", "0"), true},
	} {
		got, err := IsGood(row.s, row.from, row.box, row.to, row.whole)
		expect(t, "IsGood: "+row.what, got, err, row.want, api.OK)
	}
}

func TestTaylor(t *testing.T) {
	one := box("1", "1")
	got, err := Taylor(growth(), "0", one, "1/2", box("1", "2"), 1)
	expectList(t, "Taylor of the order 1", got, err, box("13/8", "7/4"), api.OK)
	got, err = Taylor(growth(), "0", one, "1/2", box("1", "2"), 2)
	expectList(t, "Taylor of the order 2", got, err, box("79/48", "5/3"), api.OK)
	got, err = Taylor(growth(), "0", one, "1/2", box("-9", "-8"), 1)
	expectList(t, "Taylor with a box that is not good", got, err, box("3/8", "1/2"), api.OK)
	// x' = t: t at the beginning of the step is 1, and the second coefficient is 1/2
	got, err = Taylor(systemOf(one, api.Poly{term("1", 1, 0)}), "1", box("1", "2"), "3", box("5", "6"), 1)
	expectList(t, "Taylor with t", got, err, box("5", "6"), api.OK)
	// the last coefficient of x' = t^2 is t for the order 1, from 1 to 3
	got, err = Taylor(systemOf(one, api.Poly{term("1", 2, 0)}), "1", box("1", "2"), "3", box("5", "6"), 1)
	expectList(t, "Taylor with the square of t", got, err, box("7", "16"), api.OK)
	got, err = Taylor(growth(), "0", one, "1", one, 16)
	sum, power := new(big.Rat), big.NewRat(1, 1)
	for k := range int64(18) {
		power.Mul(power, big.NewRat(1, max(k, 1)))
		sum.Add(sum, power)
	}
	expectList(t, "Taylor of the order 16", got, err, box(ratOf(sum), ratOf(sum)), api.OK)
}

func TestStep(t *testing.T) {
	one := box("1", "1")
	got, err := Step(growth(), "0", one, "1/2", 1, 2)
	expectTube(t, "Step", []api.Box{got}, err, growthTube()[:1], api.OK)
	got, err = Step(growth(), "1/2", box("3/2", "2"), "1", 1, 2)
	expectTube(t, "the next one", []api.Box{got}, err, growthTube()[1:], api.OK)
	got, err = Step(square(), "0", one, "2", 1, 2)
	expectTube(t, "Step without a trial box", []api.Box{got}, err, make([]api.Box, 1), api.ErrStep)
	got, err = Step(still("0", "0"), "-1/3", box("1/3", "1/2"), "0", 16, 0)
	expectTube(t, "Step of what stands still", []api.Box{got}, err, []api.Box{{End: "0", Whole: box("0", "1"), Last: box("0", "1")}}, api.OK)
}

// TestErrorsOfSteps has the errors of the functions of steps, each one in front of those behind it.
func TestErrorsOfSteps(t *testing.T) {
	one, long := box("1", "1"), digits("9", 601)
	type arguments struct {
		s           api.System
		from        api.Rat
		box         []api.Span
		to          api.Rat
		whole       []api.Span
		order, bits int
	}
	calls := map[string]func(a arguments) (bool, api.Errno){
		"Picard": func(a arguments) (bool, api.Errno) {
			box, err := Picard(a.s, a.from, a.box, a.to, a.bits)
			return box == nil, err
		},
		"IsGood": func(a arguments) (bool, api.Errno) {
			is, err := IsGood(a.s, a.from, a.box, a.to, a.whole)
			return !is, err
		},
		"Taylor": func(a arguments) (bool, api.Errno) {
			box, err := Taylor(a.s, a.from, a.box, a.to, a.whole, a.order)
			return box == nil, err
		},
		"Step": func(a arguments) (bool, api.Errno) {
			b, err := Step(a.s, a.from, a.box, a.to, a.order, a.bits)
			return sameBox(b, api.Box{}), err
		},
	}
	// Each row repairs what is wrong in front of it.
	a := arguments{api.System{}, "x", nil, "", nil, 0, 65}
	for _, row := range []struct {
		what   string
		repair func()
		want   map[string]api.Errno // of those calls that have another one than before
	}{
		{"the system", func() {}, map[string]api.Errno{"Picard": api.ErrEmpty, "IsGood": api.ErrEmpty, "Taylor": api.ErrEmpty, "Step": api.ErrEmpty}},
		{"from", func() { a.s = growth() }, map[string]api.Errno{"Picard": api.ErrForm, "IsGood": api.ErrForm, "Taylor": api.ErrForm, "Step": api.ErrForm}},
		{"the shape of the box", func() { a.from = "1/2" }, map[string]api.Errno{"Picard": api.ErrShape, "IsGood": api.ErrShape, "Taylor": api.ErrShape, "Step": api.ErrShape}},
		{"the box", func() { a.box = box("1", "0") }, map[string]api.Errno{"Picard": api.ErrOrder, "IsGood": api.ErrOrder, "Taylor": api.ErrOrder, "Step": api.ErrOrder}},
		{"to", func() { a.box, a.to = one, long }, map[string]api.Errno{"Picard": api.ErrLarge, "IsGood": api.ErrLarge, "Taylor": api.ErrLarge, "Step": api.ErrLarge}},
		{"the shape of whole", func() { a.to = "1/2" }, map[string]api.Errno{"Picard": api.ErrRange, "IsGood": api.ErrShape, "Taylor": api.ErrShape, "Step": api.ErrRange}},
		{"whole", func() { a.whole = box("", "0") }, map[string]api.Errno{"IsGood": api.ErrForm, "Taylor": api.ErrForm}},
		{"the order", func() { a.whole, a.bits = box("1", "2"), 64 }, map[string]api.Errno{"Picard": api.ErrOrder, "IsGood": api.ErrOrder, "Taylor": api.ErrRange}},
		{"the order 17", func() { a.order = 17 }, nil},
		{"the order -1", func() { a.order = -1 }, nil},
		{"the bits", func() { a.order, a.bits = 16, -1 }, map[string]api.Errno{"Picard": api.ErrRange, "Taylor": api.ErrOrder, "Step": api.ErrRange}},
		{"the bits 65", func() { a.bits = 65 }, nil},
		{"a step of no length", func() { a.bits = 0 }, map[string]api.Errno{"Picard": api.ErrOrder, "Step": api.ErrOrder}},
		{"a step backwards", func() { a.to = "1/3" }, nil},
		{"a step too far", func() { a.to = "5" }, map[string]api.Errno{"Picard": api.ErrStep, "IsGood": api.OK, "Taylor": api.OK, "Step": api.ErrStep}},
		{"nothing", func() { a.to, a.bits, a.order = "3/4", 64, 1 }, map[string]api.Errno{"Picard": api.OK, "Step": api.OK}},
	} {
		row.repair()
		for name, call := range calls {
			want, ok := row.want[name]
			if !ok {
				continue
			}
			isZero, err := call(a)
			expectError(t, name+": "+row.what, err, want)
			if err != api.OK && !isZero {
				t.Errorf("%s: %s: a result beside the error %d", name, row.what, err)
			}
		}
	}
}

// TestStepsAsDefined compares steps with what the definitions give.
func TestStepsAsDefined(t *testing.T) {
	r := rand.New(rand.NewSource(3))
	found, good := map[int]int{}, map[bool]int{}
	for range 600 {
		s, order, bits := someSystem(t, r), 1+r.Intn(3), r.Intn(9)
		start := someBox(r, len(s.Names))
		from := someRat(r)
		to := ratOf(new(big.Rat).Add(bigOf(from), big.NewRat(int64(1+r.Intn(3)), int64(1+r.Intn(60)))))
		want, trial := trialOf(s, bigOf(from), bigOf(to), widesOf(start), bits)
		found[trial]++
		wantError := api.OK
		if trial == 0 {
			wantError = api.ErrStep
		}
		got, err := Picard(s, from, start, to, bits)
		expectList(t, "Picard", got, err, spansOf(want), wantError)
		whole := got
		if trial == 0 || r.Intn(3) == 0 {
			whole = someBox(r, len(s.Names))
		}
		wantGood := allWithin(movedOf(s, bigOf(from), bigOf(to), widesOf(start), widesOf(whole)), widesOf(whole))
		good[wantGood]++
		isGood, err := IsGood(s, from, start, to, whole)
		expect(t, "IsGood", isGood, err, wantGood, api.OK)
		last := taylorOf(s, bigOf(from), bigOf(to), widesOf(start), widesOf(whole), order)
		got, err = Taylor(s, from, start, to, whole, order)
		expectList(t, "Taylor", got, err, spansOf(last), api.OK)
		b, err := Step(s, from, start, to, order, bits)
		var wantBox api.Box
		if trial > 0 {
			last = taylorOf(s, bigOf(from), bigOf(to), widesOf(start), want, order)
			wantBox = api.Box{End: to, Whole: spansOf(want), Last: spansOf(outwards(last, bits))}
		}
		expectTube(t, "Step", []api.Box{b}, err, []api.Box{wantBox}, wantError)
	}
	if found[0] < 30 || found[1] < 30 || found[2] < 30 || len(found) < 4 || good[true] < 100 || good[false] < 100 {
		t.Errorf("the steps take %v trials, and the boxes are %v", found, good)
	}
}
