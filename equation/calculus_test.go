package equation

import (
	"math/big"
	"math/rand"
	"slices"
	"strconv"
	"strings"
	"testing"

	"integraph/api"
)

// The tests of this file are those of P2.2, and of P2.6 for expressions.

func TestDerive(t *testing.T) {
	for _, row := range [][2]string{
		{"2/3", "0"}, {"y", "1"}, {"x", "0"}, {"t", "0"}, {"y'", "0"}, {"-y", "-1"}, {"-x", "-0"}, {"y + x", "1 + 0"}, {"x - y", "0 - 1"},
		{"y * x", "1 * x + y * 0"}, {"x * y", "0 * y + x * 1"}, {"y * y * x", "(1 * y + y * 1) * x + y * y * 0"}, {"x / y", "(0 * y - x * 1) / y^2"}, {"y / (x + y)", "(1 * (x + y) - y * (0 + 1)) / (x + y)^2"},
		{"y^0", "0"}, {"y^1", "1 * y^0 * 1"}, {"y^2", "2 * y^1 * 1"}, {"y^12", "12 * y^11 * 1"}, {"(x - y)^3", "3 * (x - y)^2 * (0 - 1)"}, {"x^2", "2 * x^1 * 0"},
		{"y^-1", "-(1 * y^-1 / y * 1)"}, {"y^-12", "-(12 * y^-12 / y * 1)"}, {"(-y)^-2", "-(2 * (-y)^-2 / (-y) * -1)"},
		{"sin(y)", "cos(y) * 1"}, {"cos(y)", "-(sin(y) * 1)"}, {"tan(y)", "(1 + tan(y)^2) * 1"}, {"exp(y)", "exp(y) * 1"}, {"log(y)", "1 / y"}, {"sqrt(y)", "1 / (2 * sqrt(y))"},
		{"exp(-y)", "exp(-y) * -1"}, {"sin(x * y)", "cos(x * y) * (0 * y + x * 1)"}, {"log(x)", "0 / x"}, {"sqrt(2 * y)", "(0 * y + 2 * 1) / (2 * sqrt(2 * y))"}, {"tan(cos(y))", "(1 + tan(cos(y))^2) * -(sin(y) * 1)"},
	} {
		got, err := Derive(expr(t, row[0]), "y")
		expectExpr(t, "Derive of "+row[0], got, err, expr(t, row[1]), api.OK)
	}
	got, err := Derive(expr(t, "t * y' + y"), "t")
	expectExpr(t, "Derive by t", got, err, expr(t, "1 * y' + t * 0 + 0"), api.OK)
	got, err = Derive(expr(t, "t * y' + y"), "y'")
	expectExpr(t, "Derive by y'", got, err, expr(t, "0 * y' + t * 1 + 0"), api.OK)
	got, err = Derive(expr(t, "y^2"), "z''")
	expectExpr(t, "Derive by another name", got, err, expr(t, "2 * y^1 * 0"), api.OK)
}

func TestDeriveErrors(t *testing.T) {
	y := name("y")
	for _, row := range []struct {
		what string
		e    api.Expr
		name string
		want api.Errno
	}{
		{"a bad expression", call("+", y), "?", api.ErrShape}, {"a bad name", call("abs", y), "", api.ErrName}, {"a function as a name", y, "sin", api.ErrName}, {"t'", y, "t'", api.ErrName}, {"8 apostrophes", y, "y''''''''", api.ErrName}, {"7 apostrophes", y, "y'''''''", api.OK},
		{"abs", call("abs", y), "y", api.ErrRefuse}, {"a hidden function", call("+", y, call("sin", call("min", whole(1), whole(2)))), "x", api.ErrRefuse},
		{"a large derivative", call("*", treeOf(99), treeOf(99)), "y", api.ErrMany}, {"a deep derivative", call("sin", chainOf(29)), "y", api.ErrLimit}, {"a less deep one", call("sin", chainOf(28)), "y", api.OK}, {"a large and deep one", nested("tan", 29), "y", api.ErrMany}, {"a deep one with refused functions", nested("abs", 29), "y", api.ErrRefuse},
		{"signs of a depth of 30", chainOf(30), "x", api.OK},
	} {
		got, err := Derive(row.e, row.name)
		expectError(t, "Derive: "+row.what, err, row.want)
		if err != api.OK && !sameExpr(got, api.Expr{}) {
			t.Errorf("Derive: %s: an expression beside the error", row.what)
		}
	}
	got, err := Derive(call("*", treeOf(49), treeOf(49)), "y") // each of 49 parts is twice in the result, with three signs
	expectError(t, "Derive: 199 expressions", err, api.OK)
	if n, _, _ := Size(got); n != 199 {
		t.Errorf("Derive: %d expressions, not 199", n)
	}
	_, err = Derive(call("*", treeOf(51), treeOf(49)), "y")
	expectError(t, "Derive: 203 expressions", err, api.ErrMany)
}

// nested returns a function of itself, and so on, of y.
func nested(function string, times int) api.Expr {
	e := name("y")
	for range times {
		e = call(function, e)
	}
	return e
}

func TestSubstitute(t *testing.T) {
	for _, row := range [][4]string{
		{"y + 1", "y", "x * 2", "x * 2 + 1"}, {"y * y - y'", "y", "x + 1", "(x + 1) * (x + 1) - y'"}, {"y * y - y'", "y'", "-y", "y * y - -y"}, {"sin(t) / t^2", "t", "t - 1", "sin(t - 1) / (t - 1)^2"},
		{"y", "y", "7/3", "7/3"}, {"x", "y", "7/3", "x"}, {"y + y1", "y", "y + y1", "y + y1 + y1"}, {"-y^-2", "y", "-y", "-(-y)^-2"}, {"min(y, abs(x))", "x", "delay(x, y)", "min(y, abs(delay(x, y)))"}, {"5", "t", "x", "5"},
	} {
		got, err := Substitute(expr(t, row[0]), row[1], expr(t, row[2]))
		expectExpr(t, "Substitute in "+row[0], got, err, expr(t, row[3]), api.OK)
	}
	bad := call("+", name("y"))
	for _, row := range []struct {
		what  string
		e, by api.Expr
		name  string
		want  api.Errno
	}{
		{"all bad", bad, api.Expr{}, "", api.ErrShape}, {"a bad name and a bad expression", name("y"), bad, "end", api.ErrName}, {"t'", name("y"), name("y"), "t'", api.ErrName}, {"the other expression", name("y"), bad, "x", api.ErrShape},
		{"many", call("+", name("y"), name("y")), treeOf(101), "y", api.ErrMany}, {"199", call("+", name("y"), name("y")), treeOf(99), "y", api.OK}, {"201", call("+", name("y"), name("y")), call("-", treeOf(97), negative(name("x"))), "y", api.ErrMany}, {"deep", chainOf(16), chainOf(16), "x", api.ErrLimit}, {"not too deep", chainOf(16), chainOf(15), "x", api.OK}, {"many and deep", call("+", treeOf(99), chainOf(20)), chainOf(20), "x", api.ErrMany},
		{"another name", treeOf(199), treeOf(199), "y", api.OK},
	} {
		got, err := Substitute(row.e, row.name, row.by)
		expectError(t, "Substitute: "+row.what, err, row.want)
		if err != api.OK && !sameExpr(got, api.Expr{}) {
			t.Errorf("Substitute: %s: an expression beside the error", row.what)
		}
	}
}

func TestSimplify(t *testing.T) {
	nine, ten := digits("9", 9), "1"+digits("0", 9)
	for _, row := range [][2]string{
		// operations on numbers
		{"2 + 3", "5"}, {"2 - 3", "-1"}, {"1/2 * 4", "2"}, {"1 / 2", "1/2"}, {"-1 / 2", "-1/2"}, {"2^-3", "1/8"}, {"(-2)^3", "-8"}, {"(-2)^2", "4"}, {"-2^2", "-4"}, {"0^0", "1"}, {"-3 - -5", "2"}, {"-(3)", "-3"}, {"-0", "0"}, {"--5", "5"}, {"---5", "-5"}, {"2 - 2", "0"}, {"-2 * -3", "6"}, {"2 * 3 + 4 / 8", "13/2"}, {"(1 + 1)^2", "4"},
		{"0 + 5", "5"}, {"0 * 7", "0"}, {"0 / 5", "0"}, {"5^1", "5"}, {"5^0", "1"}, {"1 * -2", "-2"},
		// what has no value stays, unless a later rule applies
		{"1 / 0", "1 / 0"}, {"0^-1", "0^-1"}, {"0 / 0", "0"}, {"2 + 1 / 0", "2 + 1 / 0"}, {"(1 / 0)^0", "1"}, {"0 * (1 / 0)", "0"}, {"-1 / 0", "-1 / 0"},
		// 9 digits
		{nine + " + 0", nine}, {nine + " + 1", nine + " + 1"}, {nine + " * 1", nine}, {"1 / " + nine, "1/" + nine}, {"1 / " + ten, "1 / " + ten}, {"1/" + nine + " * 1/2", "1/" + nine + " * 1/2"}, {ten + " / " + ten, "1"}, {ten + " - " + ten, "0"}, {"10^9", "10^9"}, {"10^8", "100000000"}, {"10^-9", "10^-9"}, {"10^-8", "1/100000000"}, {ten, ten}, {"-" + ten, "-" + ten}, {"-" + nine + " / " + nine, "-1"}, {"--" + ten, ten}, {"---" + ten, "-" + ten}, {ten + " + 0", ten}, {"0 - " + ten, "-" + ten}, {ten + "0 + -1", ten + "0 - 1"}, {ten + " + -1", nine}, {"1 - -" + ten, "1 + " + ten}, {ten + "^1", ten}, {digits("7", 600) + "^12", digits("7", 600) + "^12"}, {"0 * " + ten, "0"}, {"-" + nine + " - 1", "-" + nine + " - 1"},
		// rules 2 to 9
		{"x + 0", "x"}, {"0 + x", "x"}, {"x - 0", "x"}, {"0 - x", "-x"}, {"0 * x", "0"}, {"x * 0", "0"}, {"1 * x", "x"}, {"x * 1", "x"}, {"0 / x", "0"}, {"x / 1", "x"}, {"x / 0", "x / 0"}, {"1 / x", "1 / x"}, {"x^1", "x"}, {"x^0", "1"}, {"x^2", "x^2"}, {"x^-1", "x^-1"}, {"--x", "x"}, {"---x", "-x"}, {"x + -y", "x - y"}, {"x - -y", "x + y"}, {"-x + y", "-x + y"}, {"x + -3", "x - 3"}, {"x - -3", "x + 3"}, {"x * -1", "x * -1"}, {"-1 * x", "-1 * x"}, {"x - x", "x - x"}, {"2 + x + 3", "2 + x + 3"},
		{"0 + -x", "-x"}, {"0 - -x", "--x"}, {"-x + -y", "-x - y"}, {"-(x - y)", "-(x - y)"}, {"-x - 0", "-x"}, {"x * (y - y * 1)", "x * (y - y)"},
		// rules are applied once, to operands that are simple
		{"x + (0 - y)", "x - y"}, {"x - (0 - (0 - y))", "x + -y"}, {"x + (0 - -y)", "x - -y"}, {"-(0 - -x)", "-x"}, {"2 * y^1 * 1", "2 * y"}, {"(x + 0) * (2 - 1)", "x"}, {"0 * x + 1 * y", "y"},
		// functions
		{"sin(0)", "sin(0)"}, {"sin(1 - 1) + 0", "sin(0)"}, {"max(1 + 1, 0 + x)", "max(2, x)"}, {"abs(-3)", "abs(-3)"}, {"sqrt(4)^1", "sqrt(4)"}, {"min(x, 0)", "min(x, 0)"}, {"delay(x * 1, 0)", "delay(x, 0)"}, {"log(--x)", "log(x)"},
		{"t", "t"}, {"1/3", "1/3"},
	} {
		got, err := Simplify(expr(t, row[0]))
		expectExpr(t, "Simplify of "+row[0], got, err, expr(t, row[1]), api.OK)
	}
	got, err := Simplify(call("+", name("x")))
	expectExpr(t, "Simplify of a bad one", got, err, api.Expr{}, api.ErrShape)
	derivative, _ := Derive(expr(t, "y^2"), "y")
	got, err = Simplify(derivative)
	expectExpr(t, "Simplify of a derivative", got, err, expr(t, "2 * y"), api.OK)
}

func TestValue(t *testing.T) {
	large, small := api.Rat("1"+digits("0", 599)), api.Rat("1/1"+digits("0", 599))
	names := []string{"y", "t", "x", "y'", "large", "small"}
	values := []api.Rat{"9/4", "0", "-1/2", "3", large, small}
	for _, row := range []struct {
		s    string
		want api.Rat
		e    api.Errno
	}{
		{"sqrt(y) + exp(t)", "5/2", api.OK}, {"sqrt(y) + exp(1)", "", api.ErrNone}, {"sqrt(x)", "", api.ErrRange},
		{"7/3", "7/3", api.OK}, {"y", "9/4", api.OK}, {"y' - y", "3/4", api.OK}, {"-x", "1/2", api.OK}, {"-t", "0", api.OK}, {"x * y", "-9/8", api.OK}, {"x / y", "-2/9", api.OK}, {"x - y", "-11/4", api.OK},
		{"x^3", "-1/8", api.OK}, {"x^-3", "-8", api.OK}, {"x^0", "1", api.OK}, {"t^0", "1", api.OK}, {"t^12", "0", api.OK}, {"2^12", "4096", api.OK}, {"2^-12", "1/4096", api.OK}, {"(2/3)^-2", "9/4", api.OK}, {"t^-1", "", api.ErrZero}, {"1 / t", "", api.ErrZero}, {"t / t", "", api.ErrZero},
		{"sin(t)", "0", api.OK}, {"tan(t)", "0", api.OK}, {"cos(t)", "1", api.OK}, {"log(1)", "0", api.OK}, {"sin(1)", "", api.ErrNone}, {"tan(x)", "", api.ErrNone}, {"cos(y)", "", api.ErrNone}, {"exp(x)", "", api.ErrNone}, {"sin(1 - 1)", "0", api.OK},
		{"log(t)", "", api.ErrRange}, {"log(x)", "", api.ErrRange}, {"log(2)", "", api.ErrNone}, {"log(1/2)", "", api.ErrNone}, {"log(large)", "", api.ErrNone}, {"log(-large)", "", api.ErrRange}, {"log(small)", "", api.ErrNone},
		{"sqrt(t)", "0", api.OK}, {"sqrt(2)", "", api.ErrNone}, {"sqrt(1/3)", "", api.ErrNone}, {"sqrt(4/3)", "", api.ErrNone}, {"sqrt(3/4)", "", api.ErrNone}, {"sqrt(1)", "1", api.OK}, {"sqrt(large * 10^-1)", api.Rat("1" + digits("0", 299)), api.OK}, {"sqrt(large)", "", api.ErrNone}, {"sqrt(small * 10)", api.Rat("1/1" + digits("0", 299)), api.OK}, {"sqrt(" + digits("9", 600) + ")", "", api.ErrNone}, {"sqrt(-" + digits("9", 600) + ")", "", api.ErrRange},
		{"abs(x)", "1/2", api.OK}, {"abs(y)", "9/4", api.OK}, {"abs(t)", "0", api.OK}, {"floor(x)", "-1", api.OK}, {"floor(y)", "2", api.OK}, {"floor(-3)", "-3", api.OK}, {"sign(x)", "-1", api.OK}, {"sign(t)", "0", api.OK}, {"sign(y)", "1", api.OK}, {"sign(-large)", "-1", api.OK},
		{"min(x, y)", "-1/2", api.OK}, {"min(y, x)", "-1/2", api.OK}, {"max(x, y)", "9/4", api.OK}, {"max(y, x)", "9/4", api.OK}, {"max(x, x)", "-1/2", api.OK}, {"min(-1/3, -1/2)", "-1/2", api.OK}, {"max(-1/3, -1/2)", "-1/3", api.OK}, {"delay(x, y)", "", api.ErrRefuse},
		// numbers that are too large
		{"large * 10", "", api.ErrLarge}, {"large + large", api.Rat("2" + digits("0", 599)), api.OK}, {"large * 9 + large", "", api.ErrLarge}, {"small / 10", "", api.ErrLarge}, {"large * small", "1", api.OK}, {"large^2", "", api.ErrLarge}, {"large^-2", "", api.ErrLarge}, {"large^1", large, api.OK}, {"large^-1", small, api.OK}, {"1 / small", large, api.OK}, {"small - large", "", api.ErrLarge}, {"large^2 / large^2", "", api.ErrLarge}, {"large^2 * 0", "", api.ErrLarge},
		// the first error of the evaluation
		{"1 / t + sqrt(x)", "", api.ErrZero}, {"sqrt(x) + 1 / t", "", api.ErrRange}, {"exp(1) / t", "", api.ErrNone}, {"sqrt(x) / t", "", api.ErrRange}, {"delay(1 / t, exp(1))", "", api.ErrZero}, {"delay(x, exp(1))", "", api.ErrNone}, {"sin(delay(x, x))", "", api.ErrRefuse}, {"0 * (1 / t)", "", api.ErrZero}, {"(1 / t)^0", "", api.ErrZero}, {"large^2 + 1 / t", "", api.ErrLarge}, {"min(sin(1), log(0))", "", api.ErrNone}, {"log(0 - exp(1))", "", api.ErrNone},
	} {
		got, err := Value(expr(t, row.s), names, values)
		expect(t, "Value of "+row.s, got, err, row.want, row.e)
	}
}

func TestValueErrors(t *testing.T) {
	bad := call("+", name("x"))
	many := make([]string, 257)
	for i := range many {
		many[i] = "x" + strconv.Itoa(i)
	}
	ones := slices.Repeat([]api.Rat{"1"}, 257)
	for _, row := range []struct {
		what   string
		e      api.Expr
		names  []string
		values []api.Rat
		want   api.Errno
	}{
		{"the expression", bad, []string{""}, nil, api.ErrShape}, {"fewer values", name("z"), []string{"", "x"}, []api.Rat{"1"}, api.ErrShape}, {"more values", name("z"), nil, []api.Rat{""}, api.ErrShape}, {"257 names and 256 values", name("z"), many, ones[1:], api.ErrShape},
		{"257 names", name("z"), append(slices.Clone(many[1:]), ""), ones, api.ErrMany}, {"256 names", name("x256"), many[1:], ones[1:], api.OK},
		{"a bad name", name("z"), []string{"x", "sin"}, []api.Rat{"1", "x"}, api.ErrName}, {"t'", name("z"), []string{"t'"}, []api.Rat{"1"}, api.ErrName}, {"a name twice", name("z"), []string{"x", "y", "x", ""}, []api.Rat{"1", "1", "", ""}, api.ErrTwice}, {"derivatives are other names", name("x''"), []string{"x", "x'", "x''"}, ones[:3], api.OK},
		{"a bad value", name("z"), []string{"x", "y", "x"}, []api.Rat{"1", "2/4", "1"}, api.ErrForm}, {"a long value", name("z"), []string{"x", ""}, []api.Rat{api.Rat(digits("9", 601)), ""}, api.ErrLarge}, {"the first one", name("z"), []string{"x", "y"}, []api.Rat{"", api.Rat(digits("9", 601))}, api.ErrForm},
		{"no value for t", call("/", whole(1), call("-", name("t"), name("t"))), nil, nil, api.ErrUnknown}, {"no value for a derivative", name("x'"), []string{"x"}, ones[:1], api.ErrUnknown}, {"an unknown name behind an error", call("+", call("/", whole(1), whole(0)), name("z")), []string{"x"}, ones[:1], api.ErrUnknown}, {"values that are not needed", whole(1), []string{"x"}, ones[:1], api.OK},
	} {
		got, err := Value(row.e, row.names, row.values)
		want := api.Rat("")
		if row.want == api.OK {
			want = "1"
		}
		expect(t, "Value: "+row.what, got, err, want, row.want)
	}
}

// dual is a value and its rate.
type dual struct{ value, rate *big.Rat }

// evaluateDual returns the value of an expression of operators alone at x, and its rate with respect to x, or false if there
// is none.
func evaluateDual(e api.Expr, x *big.Rat) (dual, bool) {
	none := dual{}
	switch e.Op {
	case "number":
		a, _ := new(big.Rat).SetString(string(e.Value))
		return dual{a, new(big.Rat)}, true
	case "name":
		if e.Name == "x" {
			return dual{x, big.NewRat(1, 1)}, true
		}
		return dual{big.NewRat(-5, 3), new(big.Rat)}, true
	}
	args := make([]dual, len(e.Args))
	for i, arg := range e.Args {
		var ok bool
		if args[i], ok = evaluateDual(arg, x); !ok {
			return none, false
		}
	}
	add := func(a, b *big.Rat) *big.Rat { return new(big.Rat).Add(a, b) }
	sub := func(a, b *big.Rat) *big.Rat { return new(big.Rat).Sub(a, b) }
	mul := func(a, b *big.Rat) *big.Rat { return new(big.Rat).Mul(a, b) }
	product := func(a, b dual) dual {
		return dual{mul(a.value, b.value), add(mul(a.rate, b.value), mul(a.value, b.rate))}
	}
	inverse := func(a dual) dual {
		value := new(big.Rat).Inv(a.value)
		return dual{value, mul(new(big.Rat).Neg(a.rate), mul(value, value))}
	}
	a := args[0]
	b := args[len(args)-1]
	switch e.Op {
	case "+":
		return dual{add(a.value, b.value), add(a.rate, b.rate)}, true
	case "-":
		if len(args) == 1 {
			a = dual{new(big.Rat), new(big.Rat)}
		}
		return dual{sub(a.value, b.value), sub(a.rate, b.rate)}, true
	case "*":
		return product(a, b), true
	case "/":
		if b.value.Sign() == 0 {
			return none, false
		}
		return product(a, inverse(b)), true
	}
	n, _ := strconv.Atoi(string(e.Value))
	result := dual{big.NewRat(1, 1), new(big.Rat)}
	if n < 0 {
		if a.value.Sign() == 0 {
			return none, false
		}
		a, n = inverse(a), -n
	}
	for range n {
		result = product(result, a)
	}
	return result, true
}

// isLarge reports whether an expression in another one has a value with too many digits.
func isLarge(e api.Expr, x *big.Rat) bool {
	for _, part := range inside(e) {
		if d, ok := evaluateDual(part, x); ok && (len(strings.TrimPrefix(d.value.Num().String(), "-")) > 600 || len(d.value.Denom().String()) > 600) {
			return true
		}
	}
	return false
}

// TestValuesOfDerivatives compares values of expressions, of their derivatives and of their simple forms with those of an
// automatic differentiation.
func TestValuesOfDerivatives(t *testing.T) {
	r := rand.New(rand.NewSource(3))
	points := []api.Rat{"0", "1", "-1", "2", "-5/3", "7/4"}
	values, derivatives := 0, 0
	for range 10000 {
		e := someExpr(r, 3, []string{"x", "y"}, []string{"+", "-", "*", "/", "^"})
		point := points[r.Intn(len(points))]
		x, _ := new(big.Rat).SetString(string(point))
		want, ok := evaluateDual(e, x)
		value := func(e api.Expr) (api.Rat, api.Errno) {
			return Value(e, []string{"x", "y"}, []api.Rat{point, "-5/3"})
		}
		got, err := value(e)
		if isLarge(e, x) {
			continue // there the order of the errors matters
		}
		if !ok {
			expect(t, "the value of "+show(e), got, err, "", api.ErrZero)
			continue
		}
		values++
		expect(t, "the value of "+show(e), got, err, api.Rat(want.value.RatString()), api.OK)
		simple, err := Simplify(e)
		expectError(t, "Simplify", err, api.OK)
		got, err = value(simple)
		expect(t, "the value of the simple form of "+show(e), got, err, api.Rat(want.value.RatString()), api.OK)
		derivative, err := Derive(e, "x")
		if err != api.OK {
			continue // too large
		}
		if got, err = value(derivative); err == api.OK {
			derivatives++
			expect(t, "the derivative of "+show(e), got, err, api.Rat(want.rate.RatString()), api.OK)
		}
		simple, _ = Simplify(derivative)
		if got, err = value(simple); err == api.OK {
			expect(t, "the simple derivative of "+show(e), got, err, api.Rat(want.rate.RatString()), api.OK)
		}
	}
	if values < 3000 || derivatives < 2000 {
		t.Errorf("only %d values, and %d of derivatives", values, derivatives)
	}
}

// TestRulesOfDerivatives has sums, products and compositions, also with functions where they are rational.
func TestRulesOfDerivatives(t *testing.T) {
	r := rand.New(rand.NewSource(4))
	ops := []string{"+", "-", "*", "/", "^", "sin", "cos", "tan", "exp", "log", "sqrt"}
	compared := 0
	for range 20000 {
		a, b := someExpr(r, 2, []string{"x", "y"}, ops), someExpr(r, 2, []string{"x", "y"}, ops)
		point := []api.Rat{"0", "1", "9/4"}[r.Intn(3)]
		value := func(e api.Expr, err api.Errno) (api.Rat, bool) {
			if err != api.OK {
				return "", false
			}
			value, err := Value(e, []string{"x", "y"}, []api.Rat{point, "1"})
			return value, err == api.OK
		}
		da, _ := Derive(a, "x")
		db, _ := Derive(b, "x")
		composed, _ := Substitute(a, "x", b)
		outer, _ := Substitute(da, "x", b)
		for _, rule := range []struct{ whole, parts api.Expr }{
			{call("+", a, b), call("+", da, db)}, {call("*", a, b), call("+", call("*", da, b), call("*", a, db))}, {composed, call("*", outer, db)},
		} {
			left, isLeft := value(Derive(rule.whole, "x"))
			right, isRight := value(rule.parts, CheckExpr(rule.parts))
			if isLeft && isRight {
				compared++
				expect(t, "the derivative of "+show(rule.whole), left, api.OK, right, api.OK)
			}
		}
	}
	if compared < 3000 {
		t.Errorf("only %d derivatives are compared", compared)
	}
}

// TestSimpleFormsKeepValues has all operations.
func TestSimpleFormsKeepValues(t *testing.T) {
	r := rand.New(rand.NewSource(5))
	compared := 0
	for range 30000 {
		e := someExpr(r, 3, []string{"x", "y"}, allOps())
		values := []api.Rat{[]api.Rat{"0", "1", "-7/2"}[r.Intn(3)], []api.Rat{"1", "-1", "4/9"}[r.Intn(3)]}
		want, err := Value(e, []string{"x", "y"}, values)
		if err != api.OK {
			continue
		}
		compared++
		simple, err := Simplify(e)
		expectError(t, "Simplify of "+show(e), err, api.OK)
		got, err := Value(simple, []string{"x", "y"}, values)
		expect(t, "the value of the simple form of "+show(e), got, err, want, api.OK)
		n, depth, _ := Size(e)
		if m, d, _ := Size(simple); m > n || d > depth {
			t.Errorf("the simple form %s of %s is larger", show(simple), show(e))
		}
	}
	if compared < 3000 {
		t.Errorf("only %d values are compared", compared)
	}
}
