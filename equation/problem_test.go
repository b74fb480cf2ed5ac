package equation

import (
	"slices"
	"strconv"
	"strings"
	"testing"

	"integraph/api"
)

// The tests of this file are those of P2.3.

const swing = "problem swing\nparam k = 1/4\ny'' = -k * y\nstart y = 1\nstart y' = 0\nend 10\n"

// rich has several parameters and equations.
const rich = "problem end\n" +
	"param a = -1/2\nparam b = a^2 + abs(a)\nparam c = min(b, 3) - sqrt(b + 1/4)\n" +
	"x'' = a * x' + sin(t) / b\nu' = x - c * z''\nz''' = -u * z + exp(x')\n" +
	"start x = b\nstart x' = -1\nstart u = 0\nstart z = a\nstart z' = floor(a)\nstart z'' = 2\n" +
	"end 7/2\n"

// problem returns the problem with a text.
func problem(t *testing.T, s string) api.Problem {
	t.Helper()
	p, line, err := ReadProblem(s)
	if err != api.OK {
		t.Fatalf("ReadProblem: the error %d in line %d of %s", err, line, s)
	}
	return p
}

func given(name string, order int, value api.Expr) api.Given {
	return api.Given{Name: name, Order: order, Value: value}
}

func sameGiven(a, b api.Given) bool {
	return a.Name == b.Name && a.Order == b.Order && sameExpr(a.Value, b.Value)
}

func sameProblem(a, b api.Problem) bool {
	equations := slices.EqualFunc(a.Equations, b.Equations, func(a, b api.Equation) bool {
		return a.Name == b.Name && a.Order == b.Order && sameExpr(a.Right, b.Right)
	})
	return equations && a.Name == b.Name && a.End == b.End && slices.EqualFunc(a.Params, b.Params, sameGiven) && slices.EqualFunc(a.Starts, b.Starts, sameGiven)
}

// expectProblem reports a problem, or an error, that is not the wanted one.
func expectProblem(t *testing.T, what string, got api.Problem, err api.Errno, want api.Problem, wantError api.Errno) {
	t.Helper()
	if !sameProblem(got, want) || err != wantError {
		t.Errorf("%s: got %+v and the error %d, want %+v and %d", what, got, err, want, wantError)
	}
}

// swingProblem returns the problem of the text swing, made by hand.
func swingProblem() api.Problem {
	return api.Problem{
		Name:      "swing",
		Params:    []api.Given{given("k", 0, literal("1/4"))},
		Equations: []api.Equation{{Name: "y", Order: 2, Right: call("*", negative(name("k")), name("y"))}},
		Starts:    []api.Given{given("y", 0, whole(1)), given("y", 1, whole(0))},
		End:       "10",
	}
}

// deepCopy returns a problem that shares no memory with another one.
func deepCopy(p api.Problem) api.Problem {
	var expression func(e api.Expr) api.Expr
	expression = func(e api.Expr) api.Expr {
		args := e.Args
		e.Args = nil
		for _, arg := range args {
			e.Args = append(e.Args, expression(arg))
		}
		return e
	}
	list := func(old []api.Given) []api.Given {
		var list []api.Given
		for _, g := range old {
			list = append(list, given(g.Name, g.Order, expression(g.Value)))
		}
		return list
	}
	p.Params, p.Starts = list(p.Params), list(p.Starts)
	equations := p.Equations
	p.Equations = nil
	for _, equation := range equations {
		p.Equations = append(p.Equations, api.Equation{Name: equation.Name, Order: equation.Order, Right: expression(equation.Right)})
	}
	return p
}

// problemChange is a change of a problem, and the error that it then has.
type problemChange struct {
	what   string
	change func(p *api.Problem)
	want   api.Errno
}

// badExpr has an error that no other rule has.
var badExpr = api.Expr{Op: "?"}

// problemChanges change the problem of rich so that it has this error first.
func problemChanges() []problemChange {
	many := func(n int) []api.Given {
		var list []api.Given
		for i := range n {
			list = append(list, given("p"+strconv.Itoa(i), 0, whole(i)))
		}
		return list
	}
	return []problemChange{
		{"nothing", func(p *api.Problem) {}, api.OK},
		{"no name", func(p *api.Problem) { p.Name = "" }, api.ErrName}, {"a bad name", func(p *api.Problem) { p.Name = "x y"; p.Params = many(17) }, api.ErrName}, {"a reserved word as the name", func(p *api.Problem) { p.Name = "param" }, api.OK}, {"t as the name", func(p *api.Problem) { p.Name = "t" }, api.OK},
		{"17 parameters", func(p *api.Problem) { p.Params = append(many(16), given("", 0, badExpr)) }, api.ErrMany}, {"16 parameters", func(p *api.Problem) { p.Params = append(many(13), p.Params...) }, api.OK}, {"no parameters", func(p *api.Problem) { p.Params = nil }, api.ErrUnknown},
		{"the name of a parameter", func(p *api.Problem) { p.Params[1].Name = "a'"; p.Params[1].Order = 1 }, api.ErrName}, {"a reserved word as a parameter", func(p *api.Problem) { p.Params[1].Name = "exp" }, api.ErrName}, {"t as a parameter", func(p *api.Problem) { p.Params[1].Name = "t" }, api.ErrName}, {"a parameter twice", func(p *api.Problem) { p.Params[2].Name = "a"; p.Params[2].Order = 1 }, api.ErrTwice},
		{"the order of a parameter", func(p *api.Problem) { p.Params[1].Order = 1; p.Params[1].Value = badExpr }, api.ErrForm}, {"a negative order of a parameter", func(p *api.Problem) { p.Params[0].Order = -1; p.Params[1].Name = "" }, api.ErrForm}, {"a bad value of a parameter", func(p *api.Problem) { p.Params[0].Value = badExpr; p.Params[1].Name = "" }, api.ErrKind},
		{"a later parameter", func(p *api.Problem) { p.Params[0].Value = name("b") }, api.ErrUnknown}, {"itself", func(p *api.Problem) { p.Params[0].Value = name("a") }, api.ErrUnknown}, {"t in a parameter", func(p *api.Problem) { p.Params[0].Value = name("t") }, api.ErrUnknown}, {"a derivative of a parameter", func(p *api.Problem) { p.Params[1].Value = name("a'") }, api.ErrUnknown}, {"a variable in a parameter", func(p *api.Problem) { p.Params[2].Value = name("x") }, api.ErrUnknown}, {"an unknown name before a division by 0", func(p *api.Problem) { p.Params[2].Value = call("+", call("/", whole(1), whole(0)), name("x")) }, api.ErrUnknown},
		{"a parameter without a value", func(p *api.Problem) { p.Params[1].Value = call("sin", name("a")) }, api.ErrNone}, {"a division by 0", func(p *api.Problem) { p.Params[1].Value = call("/", name("a"), whole(0)) }, api.ErrZero}, {"a root", func(p *api.Problem) { p.Params[1].Value = call("sqrt", name("a")) }, api.ErrRange}, {"a delay", func(p *api.Problem) { p.Params[1].Value = call("delay", name("a"), name("a")) }, api.ErrRefuse}, {"a large parameter", func(p *api.Problem) { p.Params[1].Value = power(power(literal("1234567"), 12), 12) }, api.ErrLarge},
		{"a parameter before no equations", func(p *api.Problem) { p.Params[1].Value = badExpr; p.Equations = nil }, api.ErrKind}, {"no equations", func(p *api.Problem) { p.Equations = nil; p.Starts = nil; p.End = "" }, api.ErrEmpty}, {"25 equations", func(p *api.Problem) { p.Equations = slices.Repeat(p.Equations[:1], 25) }, api.ErrMany}, {"24 equations", func(p *api.Problem) { p.Equations = slices.Repeat(p.Equations[:1], 24) }, api.ErrTwice},
		{"the name of an equation", func(p *api.Problem) { p.Equations[1].Name = "u'"; p.Equations[1].Order = 0 }, api.ErrName}, {"t as a variable", func(p *api.Problem) { p.Equations[0].Name = "t" }, api.ErrName}, {"a parameter as a variable", func(p *api.Problem) { p.Equations[1].Name = "c"; p.Equations[1].Order = 0 }, api.ErrTwice}, {"a variable twice", func(p *api.Problem) { p.Equations[2].Name = "x"; p.Equations[2].Order = 9 }, api.ErrTwice},
		{"the order 0", func(p *api.Problem) { p.Equations[0].Order = 0; p.Equations[1].Name = "" }, api.ErrRange}, {"the order 9", func(p *api.Problem) { p.Equations[2].Order = 9; p.Equations[0].Right = badExpr }, api.ErrRange}, {"the order 8", func(p *api.Problem) { p.Equations[2].Order = 8 }, api.ErrNone}, {"a negative order", func(p *api.Problem) { p.Equations[2].Order = -1 << 63 }, api.ErrRange},
		{"a sum of orders of 25", func(p *api.Problem) {
			for i := range 3 {
				p.Equations[i].Order = 8
			}
			p.Equations[0].Right = badExpr
			p.Equations = append(p.Equations, api.Equation{Name: "w", Order: 1, Right: badExpr})
		}, api.ErrMany},
		{"a sum of orders of 24", func(p *api.Problem) {
			for i := range 3 {
				p.Equations[i].Order = 8
			}
			p.Equations[0].Right = badExpr
		}, api.ErrKind},
		{"a bad right side", func(p *api.Problem) { p.Equations[1].Right = call("+", badExpr, call("abs", whole(1))); p.Starts = nil }, api.ErrKind}, {"a large right side", func(p *api.Problem) { p.Equations[1].Right = treeOf(201) }, api.ErrMany}, {"the first right side", func(p *api.Problem) { p.Equations[0].Right = name("q"); p.Equations[1].Right = badExpr }, api.ErrUnknown},
		{"a refused function", func(p *api.Problem) { p.Equations[2].Right = call("+", name("q"), call("floor", name("x"))) }, api.ErrRefuse}, {"a refused function of a number", func(p *api.Problem) { p.Equations[2].Right = call("max", whole(1), whole(2)) }, api.ErrRefuse}, {"an unknown name", func(p *api.Problem) { p.Equations[2].Right = name("w") }, api.ErrUnknown},
		{"too high a derivative", func(p *api.Problem) { p.Equations[1].Right = name("x''") }, api.ErrUnknown}, {"the highest derivative", func(p *api.Problem) { p.Equations[0].Right = name("z''") }, api.OK}, {"the third derivative", func(p *api.Problem) { p.Equations[0].Right = name("z'''") }, api.ErrUnknown}, {"the derivative of one of the first order", func(p *api.Problem) { p.Equations[0].Right = name("u'") }, api.ErrUnknown}, {"the derivative of a parameter on the right", func(p *api.Problem) { p.Equations[0].Right = name("a'") }, api.ErrUnknown}, {"the name of the problem", func(p *api.Problem) { p.Name = "w"; p.Equations[0].Right = name("w") }, api.ErrUnknown},
		{"a right side without a value", func(p *api.Problem) {
			p.Equations[0].Right = call("+", call("/", whole(1), whole(0)), call("log", whole(-1)))
			p.Equations[0].Right.Args[1].Args[0] = negative(whole(1))
		}, api.OK},
		{"no starts", func(p *api.Problem) { p.Starts = nil; p.End = "" }, api.ErrNone}, {"a missing start", func(p *api.Problem) { p.Starts = p.Starts[:5] }, api.ErrNone}, {"a missing start in between", func(p *api.Problem) { p.Starts = slices.Delete(p.Starts, 2, 3) }, api.ErrNone}, {"an error before a missing start", func(p *api.Problem) { p.Starts = slices.Delete(p.Starts, 2, 3); p.Starts[1].Value = badExpr }, api.ErrKind}, {"an error behind a missing start", func(p *api.Problem) { p.Starts = slices.Delete(p.Starts, 2, 3); p.Starts[2].Value = badExpr }, api.ErrNone},
		{"another order", func(p *api.Problem) {
			p.Starts[3], p.Starts[4] = p.Starts[4], p.Starts[3]
			p.Starts[3].Value = badExpr
		}, api.ErrOrder},
		{"the wrong order of the first one", func(p *api.Problem) { p.Starts = append([]api.Given{given("w", 0, badExpr)}, p.Starts...) }, api.ErrOrder}, {"a start twice", func(p *api.Problem) { p.Starts = slices.Insert(p.Starts, 1, p.Starts[0]) }, api.ErrOrder}, {"a missing one and another one", func(p *api.Problem) { p.Starts[5].Order = 3 }, api.ErrNone}, {"a negative order of a start", func(p *api.Problem) { p.Starts[0].Order = -1 }, api.ErrNone},
		{"a bad start", func(p *api.Problem) { p.Starts[5].Value = badExpr; p.End = "" }, api.ErrKind}, {"a variable in a start", func(p *api.Problem) { p.Starts[1].Value = name("x") }, api.ErrUnknown}, {"t in a start", func(p *api.Problem) { p.Starts[1].Value = name("t") }, api.ErrUnknown}, {"all parameters in a start", func(p *api.Problem) { p.Starts[0].Value = call("+", name("a"), call("*", name("b"), name("c"))) }, api.OK}, {"a start without a value", func(p *api.Problem) { p.Starts[4].Value = call("exp", name("a")) }, api.ErrNone}, {"a start of a delay", func(p *api.Problem) { p.Starts[4].Value = call("delay", name("a"), name("a")) }, api.ErrRefuse}, {"a start with abs", func(p *api.Problem) { p.Starts[4].Value = call("abs", name("a")) }, api.OK},
		{"further starts", func(p *api.Problem) { p.Starts = append(p.Starts, given("w", 0, badExpr)); p.End = "" }, api.ErrMany}, {"the last start twice", func(p *api.Problem) { p.Starts = append(p.Starts, p.Starts[5]) }, api.ErrMany},
		{"no end", func(p *api.Problem) { p.End = "" }, api.ErrForm}, {"an end of no lowest terms", func(p *api.Problem) { p.End = "2/4" }, api.ErrForm}, {"a long end", func(p *api.Problem) { p.End = api.Rat(digits("9", 601)) }, api.ErrLarge}, {"the end 0", func(p *api.Problem) { p.End = "0" }, api.ErrRange}, {"a negative end", func(p *api.Problem) { p.End = "-1/2" }, api.ErrRange}, {"a small end", func(p *api.Problem) { p.End = api.Rat("1/" + digits("9", 600)) }, api.OK},
	}
}

func TestCheckProblem(t *testing.T) {
	expectError(t, "CheckProblem of the example", CheckProblem(swingProblem()), api.OK)
	for _, row := range problemChanges() {
		p := deepCopy(problem(t, rich))
		row.change(&p)
		expectError(t, "CheckProblem: "+row.what, CheckProblem(p), row.want)
		// The other functions return this error before their own ones.
		text, err := PrintProblem(p)
		expectError(t, "PrintProblem: "+row.what, err, row.want)
		names, values, err := Variables(p)
		expectError(t, "Variables: "+row.what, err, row.want)
		rights, err := FirstOrder(p)
		expectError(t, "FirstOrder: "+row.what, err, row.want)
		if row.want == api.OK {
			continue
		}
		if text != "" || len(names)+len(values)+len(rights) > 0 {
			t.Errorf("%s: a result beside an error", row.what)
		}
		got, err := Inline(p)
		expectProblem(t, "Inline: "+row.what, got, err, api.Problem{}, row.want)
		got, err = Rename(p, "", "")
		expectProblem(t, "Rename: "+row.what, got, err, api.Problem{}, row.want)
		list, err := Depends(p, "")
		expectList(t, "Depends: "+row.what, list, err, nil, row.want)
		got, err = Part(p, nil)
		expectProblem(t, "Part: "+row.what, got, err, api.Problem{}, row.want)
	}
}

func TestPrintProblem(t *testing.T) {
	text, err := PrintProblem(swingProblem())
	expect(t, "PrintProblem of the example", text, err, swing, api.OK)
	text, err = PrintProblem(problem(t, rich))
	expect(t, "PrintProblem of a rich one", text, err, rich, api.OK)
	p := swingProblem()
	long := literal(api.Rat(digits("9", 500)))
	sum := call("+", call("+", call("+", long, long), call("+", long, long)), call("+", call("+", long, long), call("+", long, long)))
	p.Equations[0].Right = call("*", literal("9"), sum)
	right, _ := Print(p.Equations[0].Right)
	p.Equations[0].Right.Args[0].Value += api.Rat(digits("9", 4096-len(right)))
	text, err = PrintProblem(p)
	expectError(t, "PrintProblem of a long one", err, api.OK)
	if !strings.Contains(text, "y'' = "+digits("9", 4096-len(right))+right+"\n") {
		t.Errorf("PrintProblem of the longest right side: %s", text)
	}
	expectProblem(t, "the longest right side", problem(t, text), api.OK, p, api.OK)
	p.Equations[0].Right.Args[0].Value += "9"
	text, err = PrintProblem(p)
	expect(t, "PrintProblem of too long a right side", len(text), err, 0, api.ErrLong)
	p = swingProblem()
	p.Starts[1].Value = call("-", sum, sum)
	text, err = PrintProblem(p)
	expect(t, "PrintProblem of too long a start", len(text), err, 0, api.ErrLong)
	p = swingProblem()
	p.Params[0].Value = call("-", sum, sum)
	text, err = PrintProblem(p)
	expect(t, "PrintProblem of too long a parameter", len(text), err, 0, api.ErrLong)
}

func TestReadProblem(t *testing.T) {
	expectProblem(t, "ReadProblem of the example", problem(t, swing), api.OK, swingProblem(), api.OK)
	for _, s := range []string{
		strings.TrimSuffix(swing, "\n"),
		"\n  \n# a swing\n   # y = 1\n#\nproblem    swing  \n\nparam   k=1/4\n  y''  =  -k*y\n # &\n  start y=1\nstart    y'   =0  \n\n end    10   \n\n#end\n   ",
		"problem swing\nparam k = 1/4\ny''=(-k)*(y)\nstart y' = 0\nstart y = 1\nend 10",
	} {
		expectProblem(t, "ReadProblem of "+s, problem(t, s), api.OK, swingProblem(), api.OK)
	}
	p := problem(t, "problem p\nx'=1\ny''''''''=x\nstart y'''''''=7\nstart y=0\nstart x=9\nstart y''=2\nstart y'''=3\nstart y''''''=6\nstart y'=1\nstart y'''''=5\nstart y''''=4\nend 1/3\n")
	for i, start := range p.Starts[1:] {
		if start.Name != "y" || start.Order != i || !is(start.Value, whole(i).Value) {
			t.Errorf("the start %d is %v", i, start)
		}
	}
	p = problem(t, "problem a\nparam parameter = 1\nendx' = -parameter\nstart endx = 2\nend 1\n")
	if p.Params[0].Name != "parameter" || p.Equations[0].Name != "endx" {
		t.Errorf("names that begin with words: %v", p)
	}
	again := problem(t, rich)
	text, _ := PrintProblem(again)
	expectProblem(t, "ReadProblem of a printed text", problem(t, text), api.OK, again, api.OK)
}

func TestReadProblemSyntax(t *testing.T) {
	lines := strings.SplitAfter(strings.TrimSuffix(swing, "\n"), "\n")
	// with returns the example with another line in the place of one, or of several ones.
	with := func(from, to int, line string) string {
		return strings.Join(lines[:from-1], "") + line + strings.Join(lines[to-1:], "")
	}
	for _, row := range []struct {
		s    string
		line int
		want api.Errno
	}{
		{"", 1, api.ErrSyntax}, {"\n", 2, api.ErrSyntax}, {"  ", 2, api.ErrSyntax}, {"# x\n\n", 3, api.ErrSyntax}, {"problem p", 2, api.ErrSyntax}, {"problem p\n", 2, api.ErrSyntax}, {"problem p\n\n", 3, api.ErrSyntax}, {with(6, 7, ""), 6, api.ErrSyntax}, {with(6, 7, "# end 10"), 7, api.ErrSyntax},
		// the name
		{with(1, 2, ""), 1, api.ErrSyntax}, {with(1, 2, "problem\n"), 1, api.ErrSyntax}, {with(1, 2, "problem \n"), 1, api.ErrSyntax}, {with(1, 2, "problem a b\n"), 1, api.ErrSyntax}, {with(1, 2, "problem 1\n"), 1, api.ErrSyntax}, {with(1, 2, "problem "+digits("x", 25)+"\n"), 1, api.ErrSyntax}, {with(1, 2, "Problem swing\n"), 1, api.ErrSyntax}, {with(1, 2, "problem\tswing\n"), 1, api.ErrSyntax}, {with(1, 2, "problem y'\n"), 1, api.ErrSyntax}, {with(1, 2, "problem end\n"), 0, api.OK}, {with(1, 2, "problem t\n"), 0, api.OK}, {with(1, 2, "problem swing\r\n"), 1, api.ErrSyntax}, {with(1, 2, "\t\nproblem swing\n"), 1, api.ErrSyntax}, {with(1, 2, "problem = 1\n"), 1, api.ErrSyntax},
		{with(2, 2, lines[0]), 2, api.ErrSyntax}, {with(7, 7, "\n"+lines[0]), 7, api.ErrSyntax}, {with(7, 7, "\nend 10\n"), 7, api.ErrSyntax}, {with(7, 7, "\nx' = 1\n"), 7, api.ErrSyntax}, {with(7, 7, "\n# x\n  \n x\n"), 9, api.ErrSyntax}, {with(7, 7, "\n#"), 0, api.OK},
		// parameters
		{with(2, 3, "param k\n"), 2, api.ErrSyntax}, {with(2, 3, "param = 1\n"), 2, api.ErrSyntax}, {with(2, 3, "paramk = 1\n"), 2, api.ErrSyntax}, {with(2, 3, "param k' = 1\n"), 2, api.ErrSyntax}, {with(2, 3, "param t = 1\n"), 2, api.ErrSyntax}, {with(2, 3, "param sin = 1\n"), 2, api.ErrSyntax}, {with(2, 3, "param k k = 1\n"), 2, api.ErrSyntax}, {with(2, 3, "param' = 1\n"), 2, api.ErrSyntax}, {with(2, 3, "param k =\n"), 2, api.ErrSyntax}, {with(2, 3, "param k = 1 = 2\n"), 2, api.ErrSyntax}, {with(2, 3, "param k = 2/4\n"), 2, api.ErrSyntax}, {with(2, 3, "param k == 2\n"), 2, api.ErrSyntax}, {with(2, 3, "\nparam k = ? # x\n"), 3, api.ErrSyntax}, {with(2, 3, "param k\n= 1\n"), 2, api.ErrSyntax},
		{with(4, 4, lines[1]), 4, api.ErrSyntax}, {with(5, 5, lines[1]), 5, api.ErrSyntax}, {with(2, 3, lines[1]+"param j = k\n"), 0, api.OK},
		// equations
		{with(3, 4, "y = 1\n"), 3, api.ErrSyntax}, {with(3, 4, "y''''''''' = 1\n"), 3, api.ErrSyntax}, {with(3, 4, "y '' = 1\n"), 3, api.ErrSyntax}, {with(3, 4, "t' = 1\n"), 3, api.ErrSyntax}, {with(3, 4, "cos' = 1\n"), 3, api.ErrSyntax}, {with(3, 4, "start' = 1\n"), 3, api.ErrSyntax}, {with(3, 4, "y''\n"), 3, api.ErrSyntax}, {with(3, 4, "y'' = \n"), 3, api.ErrSyntax}, {with(3, 4, "y'' = -k y\n"), 3, api.ErrSyntax}, {with(3, 4, "'' = 1\n"), 3, api.ErrSyntax}, {with(3, 4, "= 1\n"), 3, api.ErrSyntax}, {with(3, 4, "y'x' = 1\n"), 3, api.ErrSyntax}, {with(3, 4, "y'' - 1 = 1\n"), 3, api.ErrSyntax}, {with(3, 4, "y'' = -k * y # x\n"), 3, api.ErrSyntax},
		{with(5, 5, lines[2]), 5, api.ErrSyntax}, {with(6, 6, lines[2]), 6, api.ErrSyntax},
		// starts
		{with(4, 5, "start y\n"), 4, api.ErrSyntax}, {with(4, 5, "starty = 1\n"), 4, api.ErrSyntax}, {with(4, 5, "start = 1\n"), 4, api.ErrSyntax}, {with(4, 5, "start y'''''''' = 1\n"), 4, api.ErrSyntax}, {with(4, 5, "start t = 1\n"), 4, api.ErrSyntax}, {with(4, 5, "start y ' = 1\n"), 4, api.ErrSyntax}, {with(4, 5, "start y = \n"), 4, api.ErrSyntax}, {with(4, 5, "start y = 1 +\n"), 4, api.ErrSyntax}, {with(2, 2, "start z = 1\n"), 3, api.ErrSyntax}, {with(3, 3, "start z = 1\n"), 4, api.ErrSyntax},
		// the end
		{with(6, 7, "end\n"), 6, api.ErrSyntax}, {with(6, 7, "end10\n"), 6, api.ErrSyntax}, {with(6, 7, "end 10 20\n"), 6, api.ErrSyntax}, {with(6, 7, "end x\n"), 6, api.ErrSyntax}, {with(6, 7, "end 2/4\n"), 6, api.ErrSyntax}, {with(6, 7, "end 010\n"), 6, api.ErrSyntax}, {with(6, 7, "end 1.5\n"), 6, api.ErrSyntax}, {with(6, 7, "end - 1\n"), 6, api.ErrSyntax}, {with(6, 7, "end 1 / 2\n"), 6, api.ErrSyntax}, {with(6, 7, "end = 1\n"), 6, api.ErrSyntax}, {with(6, 7, "end 2/"+digits("4", 601)), 6, api.ErrSyntax}, {with(6, 7, "end 1/2\n"), 0, api.OK}, {with(2, 2, "end 10\n"), 3, api.ErrSyntax},
		// the error of Read
		{with(3, 4, "y'' = "+strings.Repeat("-", 30)+"y\n"), 3, api.ErrLimit}, {with(4, 5, "start y = 1"+strings.Repeat(" + 1", 100)+"\n"), 4, api.ErrMany}, {with(2, 3, "param k = "+digits("9", 601)+"\n"), 2, api.ErrLarge}, {with(3, 4, "y'' = 1"+digits(" ", 4090)+"+ 1\n"), 0, api.OK}, {with(3, 4, "y'' = 1"+digits(" ", 4093)+"+ 1\n"), 3, api.ErrLong}, {with(3, 4, "y'' = "+digits(" ", 5000)+"y"+digits(" ", 5000)+"\n"), 0, api.OK}, {with(3, 4, "y = "+digits("x", 5000)+"\n"), 3, api.ErrSyntax}, {with(2, 3, lines[1]+"param j = +\nx y\n"), 3, api.ErrSyntax}, {with(3, 4, "y'' = 9"+digits("9", 4096)+"\n"), 3, api.ErrLong},
		// the length
		{swing + "#" + digits(" ", 1000000-len(swing)-1), 0, api.OK}, {swing + "#" + digits(" ", 1000000-len(swing)), 0, api.ErrLong}, {digits("?", 1000001), 0, api.ErrLong}, {digits("\n", 1000000), 1000001, api.ErrSyntax},
	} {
		what := "ReadProblem of " + row.s[:min(len(row.s), 120)]
		p, line, err := ReadProblem(row.s)
		expect(t, what, line, err, row.line, row.want)
		if err != api.OK && !sameProblem(p, api.Problem{}) {
			t.Errorf("%s: a problem beside the error", what)
		}
	}
}

// TestReadProblemErrors has texts whose lines are right.
func TestReadProblemErrors(t *testing.T) {
	for _, row := range []struct {
		what, old, new string
		want           api.Errno
	}{
		{"a missing start", "start y' = 0\n", "", api.ErrNone}, {"a refused function", "-k * y", "-abs(y)", api.ErrRefuse}, {"too high a derivative", "-k * y", "-y''", api.ErrUnknown},
		{"no equation", "y'' = -k * y\n", "", api.ErrEmpty}, {"nothing but the name and the end", swing, "problem p\nend 1", api.ErrEmpty}, {"starts without an equation", "y'' = -k * y\nstart y = 1\nstart y' = 0", "start y = 1", api.ErrEmpty},
		{"a start twice", "start y' = 0", "start y = 2", api.ErrTwice}, {"an unknown start twice", "end", "start z = 1\nstart z = 1\nend", api.ErrTwice}, {"a start twice and no equation", "y'' = -k * y\nstart y = 1\nstart y' = 0", "start y = 1\nstart y = 1", api.ErrTwice}, {"a start twice and a parameter twice", "y'' = -k * y\nstart y = 1", "param k = 2\ny'' = y\nstart y' = 1", api.ErrTwice},
		{"an unknown start", "start y = 1", "start z = q\nstart y = 1", api.ErrMany}, {"too high a start", "start y = 1", "start y'' = 1\nstart y = 1", api.ErrMany}, {"unknown starts and a bad one", "start y = 1", "start z = 1\nstart y = q", api.ErrUnknown}, {"an unknown start for another one", "start y = 1", "start z = 1", api.ErrNone},
		{"a parameter twice", "param k = 1/4", "param k = 1\nparam k = 2", api.ErrTwice}, {"a parameter as a variable", "param k", "param y", api.ErrTwice}, {"an equation twice", "y'' = -k * y", "y'' = -k * y\ny' = 1", api.ErrTwice}, {"a parameter without a value", "1/4", "exp(1)", api.ErrNone}, {"a parameter of a later one", "param k = 1/4", "param k = j\nparam j = 1", api.ErrUnknown},
		{"the end 0", "end 10", "end 0", api.ErrRange}, {"a negative end", "end 10", "end -1/2", api.ErrRange}, {"a long end", "end 10", "end 1/" + digits("9", 601), api.ErrLarge}, {"17 parameters", "param k = 1/4\n", strings.Repeat("param k = 1/4\n", 17), api.ErrMany}, {"25 equations", "y'' = -k * y\n", strings.Repeat("y'' = -k * y\n", 25), api.ErrMany}, {"a sum of orders of 25", "y'' = -k * y\n", "y'' = -k * y\na'''''''' = 1\nb'''''''' = 1\nc''''''' = 1\n", api.ErrMany}, {"too high a start in a place", "y'' = -k * y\nstart y = 1\nstart y' = 0", "y' = 1\nstart y' = 0", api.ErrNone},
	} {
		s := strings.Replace(swing, row.old, row.new, 1)
		p, line, err := ReadProblem(s)
		expect(t, "ReadProblem: "+row.what, line, err, 0, row.want)
		if !sameProblem(p, api.Problem{}) {
			t.Errorf("ReadProblem: %s: a problem beside the error", row.what)
		}
	}
}
