package generate

import (
	"strings"
	"testing"

	"integraph/api"
	"integraph/equation"
)

// The tests of this file are those of P3.1.

// auxiliaries returns a system in which the variables u1, u2, .. are named u#1, u#2, ..
func auxiliaries(s api.System) api.System {
	for i, name := range s.Names {
		s.Names[i] = strings.Replace(name, "u", "u#", 1)
	}
	return s
}

// show returns the texts of expressions.
func show(t *testing.T, list []api.Expr) []string {
	t.Helper()
	var texts []string
	for _, e := range list {
		texts = append(texts, must[string](t, "Print")(equation.Print(e)))
	}
	return texts
}

func TestSystem(t *testing.T) {
	for _, row := range []struct {
		lines   []string
		want    []string // as for sys
		sources []string
	}{
		{[]string{"y' = -y + sin(t)", "start y = 1"}, []string{"y: -y + u1; 1", "u1: u2; 0", "u2: -u1; 1"}, []string{"sin(t)", "cos(t)"}},
		{[]string{"y' = 1 / (y^2 + 1)", "start y = 0"}, []string{"y: u1; 0", "u1: -2 * u1^3 * y; 1"}, []string{"1 / (y^2 + 1)"}},
		{[]string{"y' = sqrt(y)", "start y = 4"}, []string{"y: u1; 4", "u1: 1/2 * u2 * u1; 2", "u2: -1/2 * u2^3 * u1; 1/2"}, []string{"sqrt(y)", "1 / sqrt(y)"}},
		{[]string{"y'' = -y * t", "start y = 1/3", "start y' = -2"}, []string{"y: y'; 1/3", "y': -y * t; -2"}, nil},
		{[]string{"param k = -1/2", "y' = k * y - 3 - x", "x' = (x + y * t)^2", "start y = k + 1", "start x = 0"}, []string{"y: -1/2 * y - 3 - x; 1/2", "x: (x + y * t)^2; 0"}, nil},
		{[]string{"y' = 0 * y", "start y = 7"}, []string{"y: 0; 7"}, nil},
		{[]string{"y' = (y - y)^0 + --y^1", "start y = 7"}, []string{"y: 1 + y; 7"}, nil},
		// one of each function
		{[]string{"y' = cos(y)", "start y = 0"}, []string{"y: u2; 0", "u1: u2^2; 0", "u2: -u1 * u2; 1"}, []string{"sin(y)", "cos(y)"}},
		{[]string{"y' = tan(2 * t + y)", "start y = 0"}, []string{"y: u1; 0", "u1: (1 + u1^2) * (2 + u1); 0"}, []string{"tan(2 * t + y)"}},
		{[]string{"y' = exp(y * t)", "start y = 3"}, []string{"y: u1; 3", "u1: u1 * (y + t * u1); 1"}, []string{"exp(y * t)"}},
		{[]string{"y' = log(y)", "start y = 1"}, []string{"y: u1; 1", "u1: u2 * u1; 0", "u2: -u2^2 * u1; 1"}, []string{"log(y)", "1 / y"}},
		{[]string{"y' = y^-3", "start y = -2"}, []string{"y: u1^3; -2", "u1: -u1^5; -1/2"}, []string{"1 / y"}},
		// what is there already is taken again
		{[]string{"y' = 1 / y + log(y) + (y + 1 - 1)^-2", "start y = 1"}, []string{"y: u1 + u2 + u1^2; 1", "u1: -u1^2 * (u1 + u2 + u1^2); 1", "u2: u1 * (u1 + u2 + u1^2); 0"}, []string{"1 / y", "log(y)"}},
		{[]string{"y' = log(y) / y", "start y = 1"}, []string{"y: u1 * u2; 1", "u1: u2 * u1 * u2; 0", "u2: -u2^2 * u1 * u2; 1"}, []string{"log(y)", "1 / y"}},
		{[]string{"y' = exp(t + t)", "x' = exp(2 * t) * cos(t)", "z' = sin(-(-t))", "start y = 0", "start x = 0", "start z = 0"}, []string{"y: u1; 0", "x: u1 * u3; 0", "z: u2; 0", "u1: 2 * u1; 1", "u2: u3; 0", "u3: -u2; 1"}, []string{"exp(t + t)", "sin(t)", "cos(t)"}},
		{[]string{"param k = -3", "y' = 1 / (y + k)", "start y = 4"}, []string{"y: u1; 4", "u1: -u1^3; 1"}, []string{"1 / (y + -3)"}},
		// the quotient of 1 and a root is not the function that arises with the root
		{[]string{"y' = 1 / sqrt(y)", "start y = 4"}, []string{"y: u3; 4", "u1: 1/2 * u2 * u3; 2", "u2: -1/2 * u2^3 * u3; 1/2", "u3: -1/2 * u3^3 * u2; 1/2"}, []string{"sqrt(y)", "1 / sqrt(y)", "1 / sqrt(y)"}},
		// what is not used arises all the same
		{[]string{"y' = 0 * exp(t) + tan(t)^0", "start y = 0"}, []string{"y: 1; 0", "u1: u1; 1", "u2: 1 + u2^2; 0"}, []string{"exp(t)", "tan(t)"}},
		// functions of functions, and operands from left to right
		{[]string{"y' = 1 / (exp(t) * sin(t) - 2)", "start y = 0"}, []string{"y: u4; 0", "u1: u1; 1", "u2: u3; 0", "u3: -u2; 1", "u4: -u4^2 * (u1 * u2 + u1 * u3); -1/2"}, []string{"exp(t)", "sin(t)", "cos(t)", "1 / (exp(t) * sin(t) - 2)"}},
		{[]string{"y' = log(exp(t))", "start y = 0"}, []string{"y: u2; 0", "u1: u1; 1", "u2: u3 * u1; 0", "u3: -u3^2 * u1; 1"}, []string{"exp(t)", "log(exp(t))", "1 / exp(t)"}},
		// numbers
		{[]string{"y' = sin(0) + cos(0) + tan(t - t) + exp(0 * t) + log(1) + sqrt(9/4) + 2^-2 + 1 / (1 + 1)", "start y = 0"}, []string{"y: 17/4; 0"}, nil},
		{[]string{"y' = y / 3 - 2 / -5", "start y = 0"}, []string{"y: 1/3 * y + 2/5; 0"}, nil},
		{[]string{"y' = sin(1) * y + sqrt(1 + 1) + cos(1) + log(2)", "start y = 1"}, []string{"y: u1 * y + u2 + u3 + u4; 1", "u1: 0; 13/16..7/8", "u2: 0; 11/8..23/16", "u3: 0; 1/2..9/16", "u4: 0; 11/16..3/4"}, []string{"sin(1)", "sqrt(1 + 1)", "cos(1)", "log(2)"}},
		{[]string{"y' = sqrt(2) + tan(-1) * exp(-1) + sqrt(4 / 2)", "start y = 1"}, []string{"y: 2 * u1 + u2 * u3; 1", "u1: 0; 11/8..23/16", "u2: 0; -25/16..-3/2", "u3: 0; 5/16..3/8"}, []string{"sqrt(2)", "tan(-1)", "exp(-1)"}},
		{[]string{"y' = exp(y)", "start y = 1"}, []string{"y: u1; 1", "u1: u1^2; 43/16..11/4"}, []string{"exp(y)"}},
		{[]string{"y' = sin(exp(t))", "start y = 0"}, []string{"y: u2; 0", "u1: u1; 1", "u2: u3 * u1; 13/16..7/8", "u3: -u2 * u1; 1/2..9/16"}, []string{"exp(t)", "sin(exp(t))", "cos(exp(t))"}},
	} {
		p := problem(t, row.lines...)
		what := strings.Join(row.lines, ", ")
		s, err := System(p, 4)
		expectSystem(t, "System of "+what, s, err, auxiliaries(sys(t, row.want...)), api.OK)
		sources, err := Sources(p)
		expectList(t, "Sources of "+what, show(t, sources), err, row.sources, api.OK)
	}
}

// TestSystemOfLimits has as many variables, terms, powers and digits as there may be, and one more.
func TestSystemOfLimits(t *testing.T) {
	full := []string{"a'''''''' = 1", "b'''''''' = 1", "c'''''' = 1"} // 22 variables
	var starts []string
	for i, name := range []string{"a", "b", "c"} {
		for order := range []int{8, 8, 6}[i] {
			starts = append(starts, "start "+name+strings.Repeat("'", order)+" = 1")
		}
	}
	and := func(lines ...string) []string {
		return append(append(append([]string{}, full...), lines...), starts...)
	}
	nines := digits("9", 300)
	for _, row := range []struct {
		what   string
		lines  []string
		starts []string
		want   api.Errno
	}{
		{"24 variables", and("y' = exp(t)"), []string{"start y = 0"}, api.OK},
		{"25 variables", and("y' = exp(t) * tan(t)"), []string{"start y = 0"}, api.ErrMany},
		{"sin and cos as the 24th and 25th", and("y' = sin(t)"), []string{"start y = 0"}, api.ErrMany},
		{"log as the 24th", and("y' = log(t + 1)"), []string{"start y = 0"}, api.ErrMany},
		{"log as the 24th, with its reciprocal before it", and("y' = 1 / c + log(c)"), []string{"start y = 0"}, api.ErrMany},
		{"sqrt as the 24th", and("y' = sqrt(t + 1)"), []string{"start y = 0"}, api.ErrMany},
		{"sin of a number as the 24th", and("y' = sin(1) + log(1)"), []string{"start y = 0"}, api.OK},
		{"the limit of variables before a reciprocal of 0", and("y' = exp(t) * tan(t) / 0"), []string{"start y = 0"}, api.ErrMany},
		{"a reciprocal of 0 before the limit of variables", and("y' = 1 / 0 + exp(t) * tan(t)"), []string{"start y = 0"}, api.ErrZero},
		{"the power 12", []string{"y' = (y^3)^4 + t^5 * y^7"}, []string{"start y = 0"}, api.OK},
		{"the power 14", []string{"y' = (y^2)^7"}, []string{"start y = 0"}, api.ErrLarge},
		{"the power 13 in a product", []string{"y' = y^12 * t"}, []string{"start y = 0"}, api.ErrLarge},
		{"too large a power that cancels", []string{"y' = (y^2)^7 - (y^2)^7"}, []string{"start y = 0"}, api.ErrLarge},
		{"too large a power in an operand that is not used", []string{"y' = ((y^2)^7)^0"}, []string{"start y = 0"}, api.ErrLarge},
		{"56 terms", []string{"x' = (x + y + z + t)^5", "y' = x", "z' = x"}, []string{"start x = 0", "start y = 0", "start z = 0"}, api.OK},
		{"84 terms", []string{"x' = (x + y + z + t)^6", "y' = x", "z' = x"}, []string{"start x = 0", "start y = 0", "start z = 0"}, api.ErrMany},
		{"very many terms", and("y' = (a + a' + a'' + a''' + b + b' + b'' + b''' + c + c' + c'' + c''' + y + t)^12"), []string{"start y = 0"}, api.ErrMany},
		{"the power before the terms", []string{"x' = (x + y + z + t)^6 * x^7", "y' = x", "z' = x"}, []string{"start x = 0", "start y = 0", "start z = 0"}, api.ErrMany},
		{"the power before the terms of a product", []string{"x' = (x + y + z + t)^5 * (x^2 + y^4 + z^8 + t)", "y' = x", "z' = x"}, []string{"start x = 0", "start y = 0", "start z = 0"}, api.ErrLarge},
		{"600 digits", []string{"y' = " + nines + " * " + nines}, []string{"start y = 0"}, api.OK},
		{"too many digits", []string{"y' = " + nines + " * " + nines + "9"}, []string{"start y = 0"}, api.ErrLarge},
		{"too many digits that cancel", []string{"y' = " + nines + "^3 * 0"}, []string{"start y = 0"}, api.ErrLarge},
		{"too many digits in a denominator", []string{"y' = y / 1" + nines + " / 1" + nines}, []string{"start y = 0"}, api.ErrLarge},
		{"too many digits in a power below 0", []string{"y' = y * " + nines + "^-3"}, []string{"start y = 0"}, api.ErrLarge},
	} {
		p := problem(t, append(row.lines, row.starts...)...)
		_, err := System(p, 4)
		expectError(t, "System of "+row.what, err, row.want)
		sources, err := Sources(p)
		expectError(t, "Sources of "+row.what, err, row.want)
		if row.want != api.OK && sources != nil {
			t.Errorf("Sources of %s: a result beside an error", row.what)
		}
	}
}

// TestSystemErrors has the errors that arise while polynomials and rates are made.
func TestSystemErrors(t *testing.T) {
	for _, row := range []struct {
		right string
		want  api.Errno
	}{
		{"1 / 0", api.ErrZero}, {"1 / (y - y)", api.ErrZero}, {"(2 - 2)^-1", api.ErrZero}, {"0^0", api.OK}, {"0^-0 + 1", api.ErrSyntax},
		{"log(0)", api.ErrRange}, {"log(-1/2)", api.ErrRange}, {"sqrt(-1)", api.ErrRange}, {"log(y - y - 3)", api.ErrRange}, {"sqrt(0)", api.OK},
		// the first one, operands before what is made of them, from left to right
		{"1 / 0 + log(0)", api.ErrZero}, {"log(0) + 1 / 0", api.ErrRange}, {"(y^2)^7 / 0", api.ErrLarge}, {"1 / 0 * (y^2)^7", api.ErrZero}, {"sin((y^2)^7 + log(0))", api.ErrLarge}, {"log(0) / 0", api.ErrRange}, {"1 / 0 / log(0)", api.ErrZero}, {"(1 / 0)^-1", api.ErrZero}, {"sqrt(0 - 1 / 0)", api.ErrZero},
		// rates: y' x = y^2 has to be known
		{"0 * sin(x^9) + y^2", api.OK}, {"0 * sin(x^10) + y^2", api.OK}, {"0 * sin(x^11) + y^2", api.ErrLarge}, {"0 * (1 / x^9) + y^2", api.OK}, {"0 * (1 / x^10) + y^2", api.ErrLarge}, {"0 * sqrt(x^8) + y^2", api.OK}, {"0 * sqrt(x^9) + y^2", api.ErrLarge},
		{"0 * exp((x + y + z + t)^3) + y^2", api.OK}, {"0 * exp((x + y + z + t)^4) + y^2", api.ErrMany}, {"0 * exp((x + y + z + t)^4 + x^6 * t^6) + y^2", api.ErrLarge},
		{"0 * exp(" + digits("9", 599) + " * t^2)", api.OK}, {"0 * exp(" + digits("9", 600) + " * t^2)", api.ErrLarge},
		{"0 * exp(x^11 + " + digits("9", 600) + " * t^2) + y^2", api.ErrLarge},
		// the size of a polynomial before those of rates, whose first one decides
		{"0 * sin(x^11) + y^2 + 1 / 0", api.ErrZero}, {"0 * (exp((x + y + z + t)^5) * sin(x^11)) + y^2", api.ErrMany}, {"0 * (sin(x^11) * exp((x + y + z + t)^5)) + y^2", api.ErrLarge},
	} {
		lines := []string{"x' = " + row.right, "y' = z", "z' = t", "start x = 1", "start y = 1", "start z = 0", "end 1"}
		p, _, err := equation.ReadProblem("problem a\n" + strings.Join(lines, "\n") + "\n")
		if row.want == api.ErrSyntax {
			expectError(t, "the text "+row.right, err, row.want)
			continue
		}
		sources, err := Sources(p)
		expectError(t, "Sources of "+row.right, err, row.want)
		s, systemError := System(p, 4)
		if row.want == api.OK && systemError != api.ErrLimit {
			expectError(t, "System of "+row.right, systemError, api.OK)
		}
		if row.want != api.OK {
			expectSystem(t, "System of "+row.right, s, systemError, api.System{}, row.want)
			expectList(t, "Sources of "+row.right, show(t, sources), err, nil, row.want)
		}
	}
}

// TestSystemOfStarts has the errors of starts, which Sources does not have.
func TestSystemOfStarts(t *testing.T) {
	long := digits("7", 301)
	for _, row := range []struct {
		right, y string
		want     api.Errno
	}{
		{"1 / y", "0", api.ErrZero}, {"y^-1", "0", api.ErrZero}, {"log(y)", "0", api.ErrRange}, {"log(y)", "-1", api.ErrRange}, {"sqrt(y)", "-1", api.ErrRange}, {"sqrt(y)", "0", api.ErrZero},
		{"sin(y)", "16", api.OK}, {"sin(y)", "17", api.ErrLimit}, {"exp(-y)", "33/2", api.ErrLimit}, {"tan(y)", "1/999999999", api.OK}, {"tan(y)", "1/1000000000", api.ErrLimit}, {"sin(y)", "1000000001/1000000000", api.ErrLimit},
		{"sqrt(y)", "10000000000", api.OK}, {"1 / y", "-10000000000", api.OK}, {"sqrt(y)", "10000000001", api.ErrLimit}, {"sin(1/1000000000)", "0", api.ErrLimit},
		{"exp(sin(y))", "0", api.OK}, {"exp(sin(y))", "1", api.ErrNone}, {"exp(sin(y) + log(0 * y + 1))", "1", api.ErrNone}, {"exp(0 * sin(y))", "1", api.OK}, {"1 / exp(y)", "1", api.ErrNone}, {"1 / sqrt(2)", "0", api.ErrNone}, {"log(sqrt(y))", "2", api.ErrNone},
		{"exp(sin(y) - sin(y) + t)", "1", api.OK}, {"exp(t * sin(y))", "1", api.ErrNone},
		// the first auxiliary variable with an error
		{"1 / y + log(y)", "0", api.ErrZero}, {"log(y) + 1 / y", "0", api.ErrRange}, {"1 / (exp(y) + 1) + 1 / (y - 1)", "1", api.ErrNone}, {"1 / (y - 1) + 1 / (exp(y) + 1)", "1", api.ErrZero}, {"sin(y) + 1 / (y - 17)", "17", api.ErrLimit},
		// the value at the start is a number with as many digits as it has
		{"1 / y^2", long[:300], api.OK}, {"1 / y^2", long, api.ErrLarge}, {"1 / (y^2 - y^2 + 1 / y)", long, api.OK},
	} {
		p := problem(t, "y' = "+row.right, "start y = "+row.y)
		what := row.right + " at " + row.y
		s, err := System(p, 4)
		if row.want == api.OK {
			expectSystem(t, "System of "+what, s, err, s, api.OK)
		} else {
			expectSystem(t, "System of "+what, s, err, api.System{}, row.want)
		}
		_, err = Sources(p)
		expectError(t, "Sources of "+what, err, api.OK)
	}
}

// TestSystemArguments has the errors of the arguments.
func TestSystemArguments(t *testing.T) {
	good := problem(t, "y' = exp(t)", "start y = 1")
	unnamed := good
	unnamed.Name = "1"
	grown := problem(t, "param k = -1", "y' = "+strings.Repeat("-", 29)+"k", "start y = k")
	zero := problem(t, "y' = 1 / 0", "start y = 1")
	for _, row := range []struct {
		what string
		p    api.Problem
		bits int
		want api.Errno
	}{
		{"bits", good, 0, api.OK}, {"all bits", good, 64, api.OK}, {"too many bits", good, 65, api.ErrRange}, {"bits below 0", good, -1, api.ErrRange},
		{"a problem without a name", unnamed, 4, api.ErrName}, {"a problem before the bits", unnamed, 65, api.ErrName}, {"no problem", api.Problem{}, 4, api.ErrName},
		{"a right side that is too deep without parameters", grown, 65, api.ErrLimit}, {"the bits before the polynomials", zero, 65, api.ErrRange}, {"the polynomials", zero, 64, api.ErrZero},
	} {
		s, err := System(row.p, row.bits)
		if row.want != api.OK {
			expectSystem(t, "System: "+row.what, s, err, api.System{}, row.want)
		} else {
			expectSystem(t, "System: "+row.what, s, err, s, api.OK)
		}
		if row.want == api.ErrName || row.want == api.ErrLimit || row.want == api.ErrZero {
			sources, err := Sources(row.p)
			expectList(t, "Sources: "+row.what, show(t, sources), err, nil, row.want)
		}
	}
}

// TestSystemOnTheWay has a derivative of an operand with more terms than a polynomial may have, 84, of which the rate
// of the variable has less, 56.
func TestSystemOnTheWay(t *testing.T) {
	rest := "(1 + y + y^2 + y^3) * (1 + t + t^2"
	three := " * (1 - tan(y + z)^2 + tan(y + z)^4)"
	p := problem(t, "y' = "+rest+" + t^3)"+three, "z' = z * "+rest+")"+three, "start y = 0", "start z = 0")
	first, second := rest+" + t^3)", "z * "+rest+")"
	three = " * (1 - u1^2 + u1^4); 0"
	want := sys(t, "y: "+first+three, "z: "+second+three, "u1: ("+first+" + "+second+") * (1 + u1^6); 0")
	s, err := System(p, 4)
	expectSystem(t, "System", s, err, auxiliaries(want), api.OK)
	if len(want.Rates[0])+len(want.Rates[1]) != 84 || len(want.Rates[2]) != 56 {
		t.Errorf("%d and %d terms", len(want.Rates[0])+len(want.Rates[1]), len(want.Rates[2]))
	}
}

// TestSourcesShareNothing changes a source, and looks at the others and at the problem.
func TestSourcesShareNothing(t *testing.T) {
	p := problem(t, "y' = sin(y * t) + sqrt(1 / y) + log(y * t)", "start y = 1")
	sources := must[[]api.Expr](t, "Sources")(Sources(p))
	before := show(t, sources)
	var spoil func(e api.Expr)
	spoil = func(e api.Expr) {
		for i := range e.Args {
			spoil(e.Args[i])
			e.Args[i] = api.Expr{Op: "number", Value: "7"}
		}
	}
	for i := range sources {
		spoil(sources[i])
		for j := i + 1; j < len(sources); j++ {
			if got := show(t, sources[j:j+1])[0]; got != before[j] {
				t.Errorf("the source %d is changed with the source %d: %s", j, i, got)
			}
		}
	}
	again, err := Sources(p)
	expectList(t, "Sources", show(t, again), err, before, api.OK)
}
