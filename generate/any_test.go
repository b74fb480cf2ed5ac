package generate

import (
	"math"
	"math/rand"
	"slices"
	"testing"

	"integraph/api"
	"integraph/equation"
	"integraph/exact"
)

// strange are arguments that are well-formed, nearly so, and not at all.
var (
	strangeInts      = []int{0, 1, 2, 3, -1, 12, 13, 16, 17, 64, 65, math.MaxInt, math.MinInt}
	strangeRats      = []api.Rat{"0", "1", "-1", "1/2", "-3/7", "16", "-17/2", "-0", "", "2/4", "x", api.Rat(digits("9", 600)), api.Rat(digits("9", 601)), "1/" + api.Rat(digits("7", 600))}
	strangeNames     = []string{"x", "y", "u#1", "z'", "", "x y", "é", "\xff", digits("x", 32), digits("x", 33)}
	strangeFunctions = []string{"sin", "cos", "tan", "exp", "log", "sqrt", "reciprocal", "rsqrt", "abs", "", "number", "-", "x"}
	strangeOps       = []string{"+", "-", "*", "/", "^", "sin", "log", "sqrt", "abs", "name", "number", "", "?"}
)

func pick[T any](r *rand.Rand, list []T) T { return list[r.Intn(len(list))] }

// mostly returns the first one of a list, or, now and then, any of it.
func mostly[T any](r *rand.Rand, list []T) T {
	if r.Intn(8) > 0 {
		return list[0]
	}
	return pick(r, list)
}

func strangeRat(r *rand.Rand) api.Rat {
	if r.Intn(8) > 0 {
		return pick(r, strangeRats[:7])
	}
	return pick(r, strangeRats)
}

func strangePoly(t *testing.T, r *rand.Rand, vars int) api.Poly {
	p := somePoly(t, r, vars, 3, 3)
	for i := range p {
		if r.Intn(40) == 0 {
			p[i].Powers = p[i].Powers[:r.Intn(vars+1)]
		}
		if r.Intn(20) == 0 {
			p[i].Factor = strangeRat(r)
		}
		if r.Intn(40) == 0 && len(p[i].Powers) > 0 {
			p[i].Powers[0] = pick(r, strangeInts)
		}
	}
	if r.Intn(60) == 0 {
		return make(api.Poly, 65)
	}
	return p
}

func strangeSystem(t *testing.T, r *rand.Rand) api.System {
	if r.Intn(20) == 0 {
		return wide(r.Intn(27))
	}
	vars := r.Intn(5)
	var s api.System
	for i := range vars {
		s.Names = append(s.Names, mostly(r, []string{[]string{"x", "y", "z", "w"}[i], "x", "", "?"}))
		s.Rates = append(s.Rates, strangePoly(t, r, vars))
		low := strangeRat(r)
		s.Start = append(s.Start, api.Span{Low: low, High: mostly(r, []api.Rat{low, "17", "0"})})
	}
	if r.Intn(30) == 0 {
		s.Rates = append(s.Rates, nil)
	}
	return s
}

// strangeExpr returns an expression that is often well-formed.
func strangeExpr(r *rand.Rand, names []string) api.Expr {
	e := someExpr(r, r.Intn(4), names)
	if r.Intn(10) == 0 {
		e = api.Expr{Op: pick(r, strangeOps), Value: pick(r, strangeRats), Args: []api.Expr{e, someExpr(r, 1, names)}[:r.Intn(3)]}
	}
	if r.Intn(40) == 0 { // one that contains itself
		args := []api.Expr{e, {}}
		args[1] = api.Expr{Op: "+", Args: args}
		return args[1]
	}
	return e
}

// strangeCase has strange arguments, and what they have been.
type strangeCase struct {
	t           *testing.T
	s, other    api.System
	p           api.Poly
	list        []int
	checked     api.Errno // of s
	before      api.System
	beforeOther api.System
	beforeP     api.Poly
	beforeList  []int
}

func newStrangeCase(t *testing.T, r *rand.Rand) strangeCase {
	c := strangeCase{t: t, s: strangeSystem(t, r), other: strangeSystem(t, r)}
	vars := len(c.s.Names)
	c.p = strangePoly(t, r, min(vars, 24))
	c.list = make([]int, r.Intn(vars+2))
	for i := range c.list {
		c.list[i] = mostly(r, append([]int{i}, strangeInts...))
	}
	c.checked = CheckSystem(c.s)
	c.before, c.beforeOther, c.beforeP, c.beforeList = copyOf(c.s), copyOf(c.other), copyOfPoly(c.p), slices.Clone(c.list)
	return c
}

// expect reports another error than that of the system, if it has one, or a result beside an error.
func (c strangeCase) expect(what string, err api.Errno, isZero bool) {
	c.t.Helper()
	if c.checked != api.OK && err != c.checked || err != api.OK && !isZero {
		c.t.Errorf("%s: the error %d of a system with %d, or a result beside it", what, err, c.checked)
	}
}

func (c strangeCase) expectSystem(what string) func(got api.System, err api.Errno) {
	return func(got api.System, err api.Errno) {
		c.t.Helper()
		c.expect(what, err, got.Names == nil && got.Rates == nil && got.Start == nil)
		if err == api.OK && CheckSystem(got) != api.OK {
			c.t.Errorf("%s: the system %v", what, got)
		}
	}
}

func (c strangeCase) expectPolys(what string, got []api.Poly, err api.Errno) {
	c.t.Helper()
	c.expect(what, err, got == nil)
	for _, p := range got {
		expectError(c.t, what, exact.CheckPoly(p, len(c.s.Names)), api.OK)
	}
}

func (c strangeCase) expectRats(what string, got []api.Rat, err api.Errno) {
	c.t.Helper()
	c.expect(what, err, got == nil)
	for _, a := range got {
		expectError(c.t, what, exact.Check(a), api.OK)
	}
}

// expectSame reports arguments that have changed.
func (c strangeCase) expectSame() {
	c.t.Helper()
	same := slices.Equal(c.s.Names, c.before.Names) && sameParts(c.s, c.before) && slices.Equal(c.other.Names, c.beforeOther.Names) && sameParts(c.other, c.beforeOther)
	if !same || !samePoly(c.p, c.beforeP) || !slices.Equal(c.list, c.beforeList) {
		c.t.Error("an argument is changed")
	}
}

// TestAllSystems calls each function of systems that does not change them with strange arguments (P1): none panics, no
// result stands beside an error, each result is well-formed, and arguments do not change.
func TestAllSystems(t *testing.T) {
	r := rand.New(rand.NewSource(21))
	right := 0
	for range 8000 {
		c := newStrangeCase(t, r)
		if c.checked == api.OK {
			right++
		}
		order := pick(r, strangeInts)
		derivative, err := Lie(c.s, c.p)
		c.expect("Lie", err, derivative == nil)
		if err == api.OK {
			c.expectPolys("Lie", []api.Poly{derivative}, err)
		}
		series, err := Series(c.s, order)
		c.expect("Series", err, series == nil)
		for _, list := range series {
			c.expectRats("Series", list, err)
		}
		along, err := Along(c.s, c.p, order)
		c.expectRats("Along", along, err)
		is, err := IsIntegral(c.s, c.p)
		c.expect("IsIntegral", err, !is)
		basis, err := Integrals(c.s, mostly(r, []int{1 + r.Intn(2), pick(r, strangeInts)}))
		c.expectPolys("Integrals", basis, err)
		degree, err := Degree(c.s)
		c.expect("Degree", err, degree == 0)
		c.expect("CheckQuadratic", CheckQuadratic(c.s, []api.Poly{c.p, c.beforeP, c.p}[:r.Intn(4)]), true)
		few, err := Quadratic(c.s)
		c.expectPolys("Quadratic", few, err)
		c.expectSame()
	}
	if right < 2000 {
		t.Errorf("only %d systems are right", right)
	}
}

// TestAllChanges does the same with the changes of systems.
func TestAllChanges(t *testing.T) {
	r := rand.New(rand.NewSource(24))
	for range 8000 {
		c := newStrangeCase(t, r)
		name := pick(r, strangeNames)
		c.expectSystem("Extend")(Extend(c.s, name, c.p))
		c.expectSystem("Autonomous")(Autonomous(c.s, name))
		c.expectSystem("Sub")(Sub(c.s, c.list))
		c.expectSystem("Join")(Join(c.s, c.other))
		c.expectSystem("Permute")(Permute(c.s, c.list))
		needed, err := Needed(c.s, c.list)
		c.expect("Needed", err, needed == nil)
		order, is, err := Equal(c.s, c.other)
		c.expect("Equal", err, order == nil && !is)
		c.expectSame()
	}
}

// TestAllProblems calls System and Sources with strange problems (P1).
func TestAllProblems(t *testing.T) {
	r := rand.New(rand.NewSource(22))
	right := 0
	for range 10000 {
		p := someProblem(r, 2)
		for i := range p.Equations {
			p.Equations[i].Right = strangeExpr(r, []string{"t", "x", "y", "k"})
		}
		p.Params = []api.Given{{Name: "k", Value: strangeExpr(r, []string{"k"})}}
		if r.Intn(2) == 0 {
			p.Params[0].Value = api.Expr{Op: "number", Value: "2"}
		}
		checked := equation.CheckProblem(p)
		s, err := System(p, mostly(r, []int{8, pick(r, strangeInts)}))
		if checked != api.OK && err != checked {
			t.Errorf("System: the error %d of a problem with %d", err, checked)
		}
		if err != api.OK && (s.Names != nil || s.Rates != nil || s.Start != nil) {
			t.Errorf("System: a result beside the error %d", err)
		}
		if err == api.OK {
			right++
			expectError(t, "CheckSystem", CheckSystem(s), api.OK)
		}
		sources, err := Sources(p)
		if checked != api.OK && err != checked || err != api.OK && sources != nil {
			t.Errorf("Sources: the error %d of a problem with %d, or a result beside it", err, checked)
		}
		for _, e := range sources {
			expectError(t, "CheckExpr of a source", equation.CheckExpr(e), api.OK)
		}
	}
	if right < 1000 {
		t.Errorf("only %d problems are right", right)
	}
}

func TestAllOperands(t *testing.T) {
	r := rand.New(rand.NewSource(23))
	for range 5000 {
		got, err := Enclose(pick(r, strangeFunctions), pick(r, strangeRats), pick(r, strangeInts))
		if err != api.OK && got != (api.Span{}) || err == api.OK && exact.CheckSpan(got) != api.OK {
			t.Errorf("Enclose: %v and the error %d", got, err)
		}
	}
}
