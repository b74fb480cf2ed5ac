package equation

import (
	"math/rand"
	"slices"
	"strconv"
	"strings"
	"testing"

	"integraph/api"
)

// digits returns a digit n times.
func digits(digit string, n int) string { return strings.Repeat(digit, n) }

// expect reports a result, or an error, that is not the wanted one.
func expect[T comparable](t *testing.T, what string, got T, err api.Errno, want T, wantError api.Errno) {
	t.Helper()
	if got != want || err != wantError {
		t.Errorf("%s: got %v and the error %d, want %v and %d", what, got, err, want, wantError)
	}
}

// expectError reports an error that is not the wanted one.
func expectError(t *testing.T, what string, got, want api.Errno) {
	t.Helper()
	if got != want {
		t.Errorf("%s: got the error %d, want %d", what, got, want)
	}
}

// expectExpr reports an expression, or an error, that is not the wanted one.
func expectExpr(t *testing.T, what string, got api.Expr, err api.Errno, want api.Expr, wantError api.Errno) {
	t.Helper()
	if !sameExpr(got, want) || err != wantError {
		t.Errorf("%s: got %s and the error %d, want %s and %d", what, show(got), err, show(want), wantError)
	}
}

// expectList reports a list, or an error, that is not the wanted one.
func expectList[T comparable](t *testing.T, what string, got []T, err api.Errno, want []T, wantError api.Errno) {
	t.Helper()
	if !slices.Equal(got, want) || err != wantError {
		t.Errorf("%s: got %v and the error %d, want %v and %d", what, got, err, want, wantError)
	}
}

func sameExpr(a, b api.Expr) bool {
	return a.Op == b.Op && a.Value == b.Value && a.Name == b.Name && slices.EqualFunc(a.Args, b.Args, sameExpr)
}

// show returns an expression of any form with all its parentheses.
func show(e api.Expr) string {
	s := e.Op + string(e.Value) + e.Name
	if len(e.Args) == 0 {
		return s
	}
	var args []string
	for _, arg := range e.Args {
		args = append(args, show(arg))
	}
	return s + "(" + strings.Join(args, " ") + ")"
}

// expr returns the expression with a text.
func expr(t *testing.T, s string) api.Expr {
	t.Helper()
	e, at, err := Read(s)
	if err != api.OK {
		t.Fatalf("Read of %q: the error %d at %d", s, err, at)
	}
	return e
}

// chainOf returns a negative of a negative, and so on, with a depth.
func chainOf(depth int) api.Expr {
	e := name("x")
	for range depth - 1 {
		e = negative(e)
	}
	return e
}

// treeOf returns a sum of as many expressions as nodes says, an odd number, that is as flat as possible.
func treeOf(nodes int) api.Expr {
	if nodes == 1 {
		return name("x")
	}
	left := (nodes-1)/4*2 + 1
	return call("+", treeOf(left), treeOf(nodes-1-left))
}

// endless returns an expression that contains itself.
func endless() api.Expr {
	args := make([]api.Expr, 2)
	args[0] = name("x")
	args[1] = api.Expr{Op: "+", Args: args}
	return args[1]
}

var (
	functionsOfOne = []string{"sin", "cos", "tan", "exp", "log", "sqrt", "abs", "floor", "sign"}
	functionsOfTwo = []string{"min", "max", "delay"}
)

// someExpr returns an expression of a depth of at most depth+1 with some names and operations.
func someExpr(r *rand.Rand, depth int, names, ops []string) api.Expr {
	if depth == 0 || r.Intn(6) == 0 {
		if r.Intn(2) == 0 {
			return name(names[r.Intn(len(names))])
		}
		return literal([]api.Rat{"0", "1", "2", "3", "1/2", "5/3", "12"}[r.Intn(7)])
	}
	op := ops[r.Intn(len(ops))]
	least, most, _ := shape(op)
	args := make([]api.Expr, least+r.Intn(most-least+1))
	for i := range args {
		args[i] = someExpr(r, depth-1, names, ops)
	}
	e := call(op, args...)
	if op == "^" {
		e.Value = api.Rat(strconv.Itoa(r.Intn(25) - 12))
	}
	return e
}

// allOps are the operations with operands.
func allOps() []string {
	return slices.Concat([]string{"+", "-", "*", "/", "^"}, functionsOfOne, functionsOfTwo)
}

func TestIsVariable(t *testing.T) {
	for _, row := range []struct {
		s    string
		want bool
	}{
		{"x", true}, {"T", true}, {"t1", true}, {"t_", true}, {"Sin", true}, {"sinx", true}, {"ends", true}, {"pi", true}, {"number", true}, {"name", true},
		{digits("x", 24), true}, {digits("x", 25), false}, {"", false}, {"1x", false}, {"_x", false}, {"x'", false}, {"x y", false}, {" x", false}, {"é", false}, {"-", false}, {"x\x00", false},
		{"t", false}, {"problem", false}, {"param", false}, {"start", false}, {"end", false},
		{"sin", false}, {"cos", false}, {"tan", false}, {"exp", false}, {"log", false}, {"sqrt", false}, {"abs", false}, {"floor", false}, {"sign", false}, {"min", false}, {"max", false}, {"delay", false},
	} {
		if IsVariable(row.s) != row.want {
			t.Errorf("IsVariable of %q: got %v", row.s, !row.want)
		}
	}
}

func TestCheckExprLimits(t *testing.T) {
	for _, row := range []struct {
		what string
		e    api.Expr
		want api.Errno
	}{
		{"199 expressions", treeOf(199), api.OK}, {"200 expressions", negative(treeOf(199)), api.OK}, {"201 expressions", treeOf(201), api.ErrMany},
		{"a depth of 30", chainOf(30), api.OK}, {"a depth of 31", chainOf(31), api.ErrLimit}, {"a depth of 200", chainOf(200), api.ErrLimit}, {"a depth of 201", chainOf(201), api.ErrMany},
		{"an endless one", endless(), api.ErrMany}, {"many operands", api.Expr{Op: "?", Args: make([]api.Expr, 200)}, api.ErrMany}, {"199 operands", api.Expr{Op: "+", Args: make([]api.Expr, 199)}, api.ErrShape},
		{"the depth before the first error", api.Expr{Op: "?", Args: []api.Expr{chainOf(30)}}, api.ErrLimit},
	} {
		expectError(t, "CheckExpr: "+row.what, CheckExpr(row.e), row.want)
	}
}

// TestCheckExprOfDoubled has an expression with 2^100 expressions in it.
func TestCheckExprOfDoubled(t *testing.T) {
	e := name("x")
	for range 100 {
		e = call("+", e, e)
	}
	expectError(t, "CheckExpr", CheckExpr(e), api.ErrMany)
}

func TestCheckExpr(t *testing.T) {
	x, bad := name("x"), api.Expr{Op: "?"}
	long := api.Rat(digits("9", 601))
	for _, row := range []struct {
		what string
		e    api.Expr
		want api.Errno
	}{
		{"a number", api.Expr{Op: "number", Value: "0"}, api.OK}, {"a long number", api.Expr{Op: "number", Value: long[:600]}, api.OK}, {"a fraction", api.Expr{Op: "number", Value: "22/7"}, api.OK},
		{"no number", api.Expr{Op: "number"}, api.ErrForm}, {"no lowest terms", api.Expr{Op: "number", Value: "2/4"}, api.ErrForm}, {"too long a number", api.Expr{Op: "number", Value: long}, api.ErrLarge},
		{"a negative number", api.Expr{Op: "number", Value: "-1"}, api.ErrRange}, {"too long a negative number", api.Expr{Op: "number", Value: "-" + long}, api.ErrLarge}, {"a negative number with a name", api.Expr{Op: "number", Value: "-1/2", Name: "x"}, api.ErrRange},
		{"a number with a name", api.Expr{Op: "number", Value: "1", Name: "x"}, api.ErrForm}, {"a number with operands", api.Expr{Op: "number", Value: "-1", Args: []api.Expr{x}}, api.ErrShape},
		{"a name", x, api.OK}, {"t", name("t"), api.OK}, {"a derivative", name("x'''''''"), api.OK}, {"too high a derivative", name("x''''''''"), api.ErrName}, {"t'", name("t'"), api.ErrName},
		{"no name", name(""), api.ErrName}, {"an apostrophe", name("'"), api.ErrName}, {"a reserved word", name("end"), api.ErrName}, {"a function as a name", name("sin"), api.ErrName}, {"a function with an apostrophe", name("sin'"), api.ErrName},
		{"a long name", name(digits("x", 24) + "'''''''"), api.OK}, {"too long a name", name(digits("x", 25)), api.ErrName}, {"an apostrophe inside", name("x'y"), api.ErrName}, {"no name with a value", api.Expr{Op: "name", Value: "1"}, api.ErrName},
		{"a name with a value", api.Expr{Op: "name", Name: "x", Value: "1"}, api.ErrForm}, {"a name with operands", api.Expr{Op: "name", Args: []api.Expr{x}}, api.ErrShape},
		{"no kind", api.Expr{}, api.ErrKind}, {"another kind", api.Expr{Op: "Sin", Args: []api.Expr{x}}, api.ErrKind}, {"an unknown kind with a value", api.Expr{Op: "x", Value: "?"}, api.ErrKind},
		{"a sign", negative(x), api.OK}, {"a difference", call("-", x, x), api.OK}, {"- of nothing", call("-"), api.ErrShape}, {"- of three", call("-", x, x, x), api.ErrShape},
		{"+ of one", call("+", x), api.ErrShape}, {"+ of two", call("+", x, x), api.OK}, {"* of three", call("*", x, x, x), api.ErrShape}, {"* of two", call("*", x, x), api.OK}, {"/ of one", call("/", x), api.ErrShape}, {"/ of two", call("/", x, x), api.OK},
		{"the power 12", power(x, 12), api.OK}, {"the power -12", power(x, -12), api.OK}, {"the power 13", power(x, 13), api.ErrRange}, {"the power -13", power(x, -13), api.ErrRange}, {"the power 0", power(x, 0), api.OK},
		{"no power", api.Expr{Op: "^", Args: []api.Expr{x}}, api.ErrForm}, {"the power 1/2", api.Expr{Op: "^", Value: "1/2", Args: []api.Expr{x}}, api.ErrRange}, {"the power -0", api.Expr{Op: "^", Value: "-0", Args: []api.Expr{x}}, api.ErrForm},
		{"a very large power", api.Expr{Op: "^", Value: long[:600], Args: []api.Expr{x}}, api.ErrRange}, {"too large a power", api.Expr{Op: "^", Value: long, Args: []api.Expr{x}}, api.ErrLarge}, {"a power of two", api.Expr{Op: "^", Value: "2", Args: []api.Expr{x, x}}, api.ErrShape},
		{"a power with a name", api.Expr{Op: "^", Value: "2", Name: "x", Args: []api.Expr{x}}, api.ErrForm}, {"the power 13 with a name", api.Expr{Op: "^", Value: "13", Name: "x", Args: []api.Expr{x}}, api.ErrRange},
		{"a sum with a value", api.Expr{Op: "+", Value: "1", Args: []api.Expr{x, x}}, api.ErrForm}, {"a sine with a name", api.Expr{Op: "sin", Name: "x", Args: []api.Expr{x}}, api.ErrForm}, {"a sine with a value of no form", api.Expr{Op: "sin", Value: "?", Args: []api.Expr{x}}, api.ErrForm},
		{"the whole first", api.Expr{Op: "+", Value: "1", Args: []api.Expr{bad, x}}, api.ErrForm}, {"the left first", call("+", negative(name("?")), bad), api.ErrName}, {"the right one", call("+", x, call("*", x, bad)), api.ErrKind},
		{"operands of the left before the right", call("-", call("sin", call("+", x)), bad), api.ErrShape},
	} {
		expectError(t, "CheckExpr: "+row.what, CheckExpr(row.e), row.want)
	}
	for n := range 4 {
		args := slices.Repeat([]api.Expr{x}, n)
		for _, op := range functionsOfOne {
			expectError(t, "CheckExpr: "+op, CheckExpr(call(op, args...)), map[bool]api.Errno{true: api.OK, false: api.ErrShape}[n == 1])
		}
		for _, op := range functionsOfTwo {
			expectError(t, "CheckExpr: "+op, CheckExpr(call(op, args...)), map[bool]api.Errno{true: api.OK, false: api.ErrShape}[n == 2])
		}
	}
}

func TestSize(t *testing.T) {
	for _, row := range []struct {
		s           string
		nodes, deep int
	}{{"1/2", 1, 1}, {"-x", 2, 2}, {"x^2", 2, 2}, {"x^-12", 2, 2}, {"1 / 2", 3, 2}, {"min(x, -(y + 2)) * x'", 8, 5}, {"a + b + c + d", 7, 4}} {
		nodes, deep, err := Size(expr(t, row.s))
		expect(t, "Size of "+row.s, nodes, err, row.nodes, api.OK)
		expect(t, "the depth of "+row.s, deep, err, row.deep, api.OK)
	}
	nodes, deep, err := Size(treeOf(201))
	expect(t, "Size of a large one", nodes+deep, err, 0, api.ErrMany)
	nodes, deep, err = Size(call("+", name("x")))
	expect(t, "Size of a bad one", nodes+deep, err, 0, api.ErrShape)
}

func TestNames(t *testing.T) {
	for _, row := range []struct {
		s    string
		want []string
	}{{"1 + 2", nil}, {"t", []string{"t"}}, {"y' * y + t - y' / Z ^ 2", []string{"Z", "t", "y", "y'"}}, {"sin(b1) + max(b, a_) - b''", []string{"a_", "b", "b''", "b1"}}} {
		got, err := Names(expr(t, row.s))
		expectList(t, "Names of "+row.s, got, err, row.want, api.OK)
	}
	got, err := Names(call("+", name("x"), name("")))
	expectList(t, "Names of a bad one", got, err, nil, api.ErrName)
}

func TestRefused(t *testing.T) {
	for _, row := range []struct {
		s    string
		want []string
	}{{"1 + y", nil}, {"sin(cos(tan(exp(log(sqrt(x))))))", nil}, {"sign(abs(floor(x) + abs(y)))", []string{"abs", "floor", "sign"}}, {"min(max(x, y), delay(x, 1)) - sin(min(x, 2))", []string{"delay", "max", "min"}}} {
		got, err := Refused(expr(t, row.s))
		expectList(t, "Refused of "+row.s, got, err, row.want, api.OK)
	}
	got, err := Refused(call("abs", name("x"), name("x")))
	expectList(t, "Refused of a bad one", got, err, nil, api.ErrShape)
}
