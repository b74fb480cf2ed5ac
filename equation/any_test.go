package equation

import (
	"math/rand"
	"strings"
	"testing"

	"integraph/api"
	"integraph/exact"
)

// strange are arguments that are well-formed, nearly so, and not at all.
var (
	strangeOps   = []string{"", "number", "name", "+", "-", "*", "/", "^", "sin", "sqrt", "log", "abs", "min", "delay", "x", "\xff"}
	strangeRats  = []api.Rat{"", "0", "1", "2", "-1", "-12", "12", "13", "1/2", "9/4", "2/4", "x", api.Rat(digits("9", 600)), api.Rat(digits("9", 601))}
	strangeNames = []string{"", "t", "t'", "x", "y", "x'", "y''", "k", "k'", "sin", "end", "x''''''''", "\xff", digits("x", 25)}
	strangeInts  = []int{0, 1, 2, 3, 8, 9, -1, 1 << 62, -1 << 63}
	strangeTexts = []string{"", " ", "x", "1/2", "2/4", "+", "-", "*", "/", "^", "(", ")", ",", "sin", "min", "'", "=", "#", "\n", "problem ", "param ", "start ", "end ", "y''", "=", "k", "1", "\xff", "\x00", "0"}
)

func pick[T any](r *rand.Rand, list []T) T { return list[r.Intn(len(list))] }

// strangeExpr returns an expression that is often well-formed.
func strangeExpr(r *rand.Rand) api.Expr {
	switch r.Intn(12) {
	case 0:
		return endless()
	case 1:
		return treeOf(2*r.Intn(101) + 1)
	case 2:
		return chainOf(1 + r.Intn(32))
	case 3:
		e := api.Expr{Op: pick(r, strangeOps), Value: pick(r, strangeRats), Name: pick(r, strangeNames)}
		for range r.Intn(3) {
			e.Args = append(e.Args, strangeExpr(r))
		}
		return e
	}
	return someExpr(r, r.Intn(4), []string{"x", "y", "k", "t", "x'"}, allOps())
}

func strangeGivens(r *rand.Rand, most int) []api.Given {
	list := make([]api.Given, r.Intn(most))
	for i := range list {
		list[i] = given(pick(r, strangeNames), pick(r, strangeInts), strangeExpr(r))
	}
	return list
}

// strangeProblem returns a problem that is often well-formed.
func strangeProblem(t *testing.T, r *rand.Rand) api.Problem {
	p := deepCopy(problem(t, pick(r, []string{swing, rich, web})))
	for range r.Intn(3) {
		switch r.Intn(8) {
		case 0:
			p.Name = pick(r, strangeNames)
		case 1:
			p.Params = strangeGivens(r, 20)
		case 2:
			p.Starts = strangeGivens(r, 30)
		case 3:
			p.End = pick(r, strangeRats)
		case 4:
			p.Equations = append(p.Equations, api.Equation{Name: pick(r, strangeNames), Order: pick(r, strangeInts), Right: strangeExpr(r)})
		case 5:
			p.Equations[r.Intn(len(p.Equations))].Right = strangeExpr(r)
		case 6:
			p.Starts = append(p.Starts, strangeGivens(r, 3)...)
		case 7:
			p.Equations = nil
			return p
		}
	}
	return p
}

// memory returns the places of the operands in expressions, and reports if two of them are the same.
func memory(t *testing.T, places map[*api.Expr]bool, list ...api.Expr) {
	t.Helper()
	for _, e := range list {
		if len(e.Args) > 0 && places[&e.Args[0]] {
			t.Error("two expressions share memory")
		}
		if len(e.Args) > 0 {
			places[&e.Args[0]] = true
		}
		memory(t, places, e.Args...)
	}
}

// expressions returns those of a problem.
func expressions(p api.Problem) []api.Expr {
	var list []api.Expr
	for _, e := range assignments(p) {
		list = append(list, e)
	}
	return list
}

// TestAllExpressions calls each function of expressions with strange arguments (P1): none panics, no result stands
// beside an error, each result is well-formed, and shares no memory with anything.
func TestAllExpressions(t *testing.T) {
	r := rand.New(rand.NewSource(7))
	zero := func(what string, err api.Errno, isZero bool) {
		t.Helper()
		if err != api.OK && !isZero {
			t.Errorf("%s: a result beside the error %d", what, err)
		}
	}
	for range 30000 {
		e, other := strangeExpr(r), strangeExpr(r)
		names := []string{pick(r, strangeNames), pick(r, strangeNames), pick(r, strangeNames)}[:r.Intn(4)]
		values := []api.Rat{pick(r, strangeRats), pick(r, strangeRats), pick(r, strangeRats)}[:len(names)]
		checked := CheckExpr(e)
		before := ""
		places := map[*api.Expr]bool{}
		if checked == api.OK && CheckExpr(other) == api.OK {
			before = show(e) + show(other)
			for _, list := range [][]api.Expr{{e}, {other}} {
				memory(t, places, list...)
			}
		}
		expr := func(what string, got api.Expr, err api.Errno) {
			t.Helper()
			zero(what, err, sameExpr(got, api.Expr{}))
			if err != api.OK {
				return
			}
			expectError(t, what, CheckExpr(got), api.OK)
			if before != "" {
				memory(t, places, got)
			}
		}
		text, err := Print(e)
		zero("Print", err, text == "")
		if err != checked && err != api.ErrLong {
			t.Errorf("Print: the error %d of an expression with %d", err, checked)
		}
		nodes, deep, err := Size(e)
		zero("Size", err, nodes == 0 && deep == 0)
		list, err := Names(e)
		zero("Names", err, list == nil)
		list, err = Refused(e)
		zero("Refused", err, list == nil)
		got, err := Derive(e, pick(r, strangeNames))
		expr("Derive", got, err)
		got, err = Substitute(e, pick(r, strangeNames), other)
		expr("Substitute", got, err)
		got, err = Simplify(e)
		expr("Simplify", got, err)
		value, err := Value(e, names, values)
		zero("Value", err, value == "")
		if err == api.OK {
			expectError(t, "the value", exact.Check(value), api.OK)
		}
		if before != "" && show(e)+show(other) != before {
			t.Error("an argument is changed")
		}
		IsVariable(pick(r, strangeNames))
	}
}

func TestAllTexts(t *testing.T) {
	r := rand.New(rand.NewSource(8))
	for range 50000 {
		var s strings.Builder
		for range r.Intn(30) {
			s.WriteString(pick(r, strangeTexts))
		}
		e, at, err := Read(s.String())
		if err != api.OK && !sameExpr(e, api.Expr{}) || err == api.OK && (at != 0 || CheckExpr(e) != api.OK) {
			t.Errorf("Read of %q: %s at %d and the error %d", s.String(), show(e), at, err)
		}
		p, line, err := ReadProblem(s.String())
		if err != api.OK && !sameProblem(p, api.Problem{}) || err == api.OK && (line != 0 || CheckProblem(p) != api.OK) {
			t.Errorf("ReadProblem of %q: %v in line %d and the error %d", s.String(), p, line, err)
		}
		lines := strings.SplitAfter(rich, "\n")
		i := r.Intn(len(lines))
		lines[i] = lines[i][:r.Intn(len(lines[i])+1)] + pick(r, strangeTexts) + lines[i][min(len(lines[i]), r.Intn(20)):]
		p, _, err = ReadProblem(strings.Join(lines, ""))
		if err != api.OK && !sameProblem(p, api.Problem{}) {
			t.Errorf("ReadProblem of %q: a problem beside the error %d", lines, err)
		}
		if err == api.OK {
			text, _ := PrintProblem(p)
			again, line, err := ReadProblem(text)
			expect(t, "the line", line, err, 0, api.OK)
			expectProblem(t, "ReadProblem of a printed text", again, err, p, api.OK)
		}
	}
}

// TestAllProblems calls each function of problems with strange arguments (P1).
func TestAllProblems(t *testing.T) {
	r := rand.New(rand.NewSource(9))
	right := 0
	for range 10000 {
		p := strangeProblem(t, r)
		checked := CheckProblem(p)
		var before api.Problem
		places := map[*api.Expr]bool{}
		if checked == api.OK {
			right++
			before = deepCopy(p)
			memory(t, places, expressions(p)...)
		}
		problem := func(what string, got api.Problem, err api.Errno) {
			t.Helper()
			if checked != api.OK && err != checked {
				t.Errorf("%s: the error %d of a problem with %d", what, err, checked)
			}
			if err != api.OK {
				expectProblem(t, what, got, err, api.Problem{}, err)
				return
			}
			expectError(t, what, CheckProblem(got), api.OK)
			memory(t, places, expressions(got)...)
			for i := range got.Equations {
				got.Equations[i].Name = "?"
			}
			for _, list := range [][]api.Given{got.Params, got.Starts} {
				for i := range list {
					list[i].Name = "?"
				}
			}
		}
		got, err := Inline(p)
		problem("Inline", got, err)
		got, err = Rename(p, pick(r, strangeNames), pick(r, strangeNames))
		problem("Rename", got, err)
		got, err = Part(p, []string{pick(r, strangeNames), pick(r, strangeNames)}[:r.Intn(3)])
		problem("Part", got, err)
		rights, err := FirstOrder(p)
		if err != checked || err != api.OK && rights != nil {
			t.Errorf("FirstOrder: %d right sides and the error %d", len(rights), err)
		}
		memory(t, places, rights...)
		names, values, err := Variables(p)
		if err != checked || err != api.OK && (names != nil || values != nil) {
			t.Errorf("Variables: %v, %v and the error %d", names, values, err)
		}
		list, err := Depends(p, pick(r, strangeNames))
		if err != api.OK && list != nil || checked != api.OK && err != checked {
			t.Errorf("Depends: %v and the error %d", list, err)
		}
		if checked == api.OK {
			expectProblem(t, "an argument", p, api.OK, before, api.OK)
			if len(names) != len(rights) {
				t.Errorf("%d variables and %d right sides", len(names), len(rights))
			}
		}
	}
	if right < 2000 {
		t.Errorf("only %d problems are right", right)
	}
}
