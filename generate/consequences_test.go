package generate

import (
	"math"
	"math/big"
	"math/rand"
	"slices"
	"testing"

	"integraph/api"
	"integraph/equation"
	"integraph/exact"
)

// The tests of this file are those of P3.7.

// power is a power series: its first coefficients.
type power []*big.Rat

func zeros(order int) power {
	p := make(power, order+1)
	for k := range p {
		p[k] = new(big.Rat)
	}
	return p
}

// level returns the series of a number.
func level(a *big.Rat, order int) power {
	p := zeros(order)
	p[0] = a
	return p
}

func powerOf(list []api.Rat) power {
	p := make(power, len(list))
	for k, a := range list {
		p[k] = bigOf(a)
	}
	return p
}

func (p power) plus(q power, factor int64) power {
	sum := zeros(len(p) - 1)
	for k := range sum {
		sum[k].Add(p[k], new(big.Rat).Mul(q[k], big.NewRat(factor, 1)))
	}
	return sum
}

func (p power) times(q power) power {
	product := zeros(len(p) - 1)
	for k := range product {
		for i := range k + 1 {
			product[k].Add(product[k], new(big.Rat).Mul(p[i], q[k-i]))
		}
	}
	return product
}

// over returns p / q, whose first coefficient is not 0.
func (p power) over(q power) power {
	quotient := zeros(len(p) - 1)
	for k := range quotient {
		rest := new(big.Rat).Set(p[k])
		for i := range k {
			rest.Sub(rest, new(big.Rat).Mul(quotient[i], q[k-i]))
		}
		quotient[k] = rest.Quo(rest, q[0])
	}
	return quotient
}

// compose returns the sum of the series of a function, whose coefficients are given, at p without its first one.
func (p power) compose(coefficient func(n int64) *big.Rat) power {
	order := len(p) - 1
	rest := slices.Clone(p)
	rest[0] = new(big.Rat)
	sum, raised := zeros(order), level(big.NewRat(1, 1), order)
	for n := range int64(order + 1) {
		sum = sum.plus(raised.times(level(coefficient(n), order)), 1)
		raised = raised.times(rest)
	}
	return sum
}

// factorial returns sign / n!.
func factorial(sign, n int64) *big.Rat {
	return new(big.Rat).SetFrac(big.NewInt(sign), new(big.Int).MulRange(1, n))
}

// function returns the series of a function at p, where its value at the first coefficient is rational.
func (p power) function(name string) power {
	order := len(p) - 1
	switch name {
	case "sin":
		return p.compose(func(n int64) *big.Rat { return factorial([]int64{0, 1, 0, -1}[n%4], n) })
	case "cos":
		return p.compose(func(n int64) *big.Rat { return factorial([]int64{1, 0, -1, 0}[n%4], n) })
	case "tan":
		return p.function("sin").over(p.function("cos"))
	case "exp":
		return p.compose(func(n int64) *big.Rat { return factorial(1, n) })
	case "log": // at 1
		return p.compose(func(n int64) *big.Rat {
			if n == 0 {
				return new(big.Rat)
			}
			return big.NewRat(2*(n%2)-1, n)
		})
	}
	if p[0].Sign() == 0 { // the root of 0
		return p
	}
	value, _ := rationalValue("sqrt", ratOf(p[0]))
	root := bigOf(value)
	binomial := big.NewRat(1, 1)
	return p.over(level(p[0], order)).compose(func(n int64) *big.Rat {
		if n > 0 {
			binomial = new(big.Rat).Mul(binomial, big.NewRat(3-2*n, 2*n))
		}
		return binomial
	}).times(level(root, order))
}

// seriesOf returns the series of an expression, where those of the names are known.
func seriesOf(t *testing.T, e api.Expr, names map[string]power) power {
	t.Helper()
	order := len(names["t"]) - 1
	var args []power
	for _, arg := range e.Args {
		args = append(args, seriesOf(t, arg, names))
	}
	switch e.Op {
	case "number":
		return level(bigOf(e.Value), order)
	case "name":
		return names[e.Name]
	case "+":
		return args[0].plus(args[1], 1)
	case "-":
		if len(args) == 1 {
			return zeros(order).plus(args[0], -1)
		}
		return args[0].plus(args[1], -1)
	case "*":
		return args[0].times(args[1])
	case "/":
		return args[0].over(args[1])
	case "^":
		n := must[int](t, "an exponent")(exact.Int(e.Value))
		product, one := level(big.NewRat(1, 1), order), level(big.NewRat(1, 1), order)
		if n < 0 {
			args[0], n = one.over(args[0]), -n
		}
		for range n {
			product = product.times(args[0])
		}
		return product
	}
	return args[0].function(e.Op)
}

// someExpr returns an expression with some names, whose value at the start is often rational.
func someExpr(r *rand.Rand, depth int, names []string) api.Expr {
	call := func(op string, args ...api.Expr) api.Expr { return api.Expr{Op: op, Args: args} }
	literal := func(a api.Rat) api.Expr { return api.Expr{Op: "number", Value: a} }
	if depth == 0 || r.Intn(8) == 0 {
		if r.Intn(4) == 0 {
			return literal([]api.Rat{"0", "1", "2", "1/2", "4", "9/4"}[r.Intn(6)])
		}
		return api.Expr{Op: "name", Name: names[r.Intn(len(names))]}
	}
	sub := func() api.Expr { return someExpr(r, depth-1, names) }
	t := api.Expr{Op: "name", Name: "t"}
	switch r.Intn(13) {
	case 0, 1:
		return call("+", sub(), sub())
	case 2:
		return call("-", sub(), sub())
	case 3, 4:
		return call("*", sub(), sub())
	case 5:
		return call("-", sub())
	case 6:
		return call("/", sub(), sub())
	case 7:
		return api.Expr{Op: "^", Value: []api.Rat{"0", "1", "2", "-1", "-2", "3"}[r.Intn(6)], Args: []api.Expr{sub()}}
	case 8:
		return call([]string{"sin", "cos", "tan", "exp"}[r.Intn(4)], sub())
	case 9, 10:
		return call([]string{"sin", "cos", "tan", "exp"}[r.Intn(4)], call("*", t, sub()))
	case 11:
		return call([]string{"log", "sqrt"}[r.Intn(2)], sub())
	}
	return call([]string{"log", "sqrt"}[r.Intn(2)], call("+", literal("1"), call("*", t, sub())))
}

// someProblem returns a problem with some right sides.
func someProblem(r *rand.Rand, depth int) api.Problem {
	p := api.Problem{Name: "p", End: "1"}
	names := []string{"t", "x", "y", "y'"}
	for _, name := range []string{"x", "y"} {
		order := map[string]int{"x": 1, "y": 2}[name]
		p.Equations = append(p.Equations, api.Equation{Name: name, Order: order, Right: someExpr(r, depth, names)})
		for k := range order {
			start := api.Expr{Op: "number", Value: []api.Rat{"0", "1", "4", "1/4"}[r.Intn(4)]}
			p.Starts = append(p.Starts, api.Given{Name: name, Order: k, Value: start})
		}
	}
	return p
}

// TestAuxiliariesHaveTheSeriesOfTheirSources computes the series of right sides and sources in the way of power series.
func TestAuxiliariesHaveTheSeriesOfTheirSources(t *testing.T) {
	r := rand.New(rand.NewSource(10))
	const order = 5
	systems, found := 0, map[string]int{}
	for range 6000 {
		p := someProblem(r, 3)
		s, err := System(p, 4)
		if err != api.OK {
			continue
		}
		series, err := Series(s, order)
		if err != api.OK { // irrational
			continue
		}
		systems++
		sources := must[[]api.Expr](t, "Sources")(Sources(p))
		rights := must[[]api.Expr](t, "FirstOrder")(equation.FirstOrder(p))
		names := map[string]power{"t": level(new(big.Rat), order)}
		names["t"][1] = big.NewRat(1, 1)
		for v, name := range s.Names[:len(rights)] {
			names[name] = powerOf(series[v])
		}
		for v, right := range rights { // the rates of the variables of first order
			rate := seriesOf(t, right, names)
			for k := range order {
				if rate[k].Cmp(new(big.Rat).Mul(powerOf(series[v])[k+1], big.NewRat(int64(k+1), 1))) != 0 {
					t.Fatalf("the coefficient %d of the rate of %s: %v", k, s.Names[v], show(t, rights))
				}
			}
		}
		if len(sources) != len(s.Names)-len(rights) {
			t.Fatalf("%d sources of %d variables", len(sources), len(s.Names))
		}
		for i, source := range sources {
			want := seriesOf(t, source, names)
			found[source.Op]++
			for k, a := range powerOf(series[len(rights)+i]) {
				if a.Cmp(want[k]) != 0 {
					t.Fatalf("the coefficient %d of %s is %s, not %s", k, show(t, sources)[i], a, want[k])
				}
			}
		}
	}
	if systems < 1000 || len(found) != 7 {
		t.Errorf("%d systems with the sources %v", systems, found)
	}
}

// floatOf returns the value of an expression.
func floatOf(e api.Expr, names map[string]float64) float64 {
	var args []float64
	for _, arg := range e.Args {
		args = append(args, floatOf(arg, names))
	}
	switch e.Op {
	case "number":
		value, _ := bigOf(e.Value).Float64()
		return value
	case "name":
		return names[e.Name]
	case "+":
		return args[0] + args[1]
	case "-":
		if len(args) == 1 {
			return -args[0]
		}
		return args[0] - args[1]
	case "*":
		return args[0] * args[1]
	case "/":
		return args[0] / args[1]
	case "^":
		n, _ := bigOf(e.Value).Float64()
		return math.Pow(args[0], n)
	}
	return map[string]func(float64) float64{"sin": math.Sin, "cos": math.Cos, "tan": math.Tan, "exp": math.Exp, "log": math.Log, "sqrt": math.Sqrt}[e.Op](args[0])
}

func TestStartsContainTheValuesOfTheirSources(t *testing.T) {
	r := rand.New(rand.NewSource(11))
	wide := 0
	for range 6000 {
		p := someProblem(r, 2)
		s, err := System(p, 20)
		if err != api.OK {
			continue
		}
		sources := must[[]api.Expr](t, "Sources")(Sources(p))
		firsts := len(s.Names) - len(sources)
		values := map[string]float64{}
		for v, name := range s.Names[:firsts] {
			values[name], _ = bigOf(s.Start[v].Low).Float64()
		}
		for i, source := range sources {
			value, start := floatOf(source, values), s.Start[firsts+i]
			low, _ := bigOf(start.Low).Float64()
			high, _ := bigOf(start.High).Float64()
			if start.Low != start.High {
				wide++
				if math.Abs(high-low-math.Pow(2, -20)) > 1e-9 {
					t.Errorf("the start of %s is %v", show(t, sources)[i], start)
				}
			}
			if slack := 1e-9 * (1 + math.Abs(value)); value < low-slack || value > high+slack {
				t.Errorf("the start of %s is %v, but its value is %v", show(t, sources)[i], start, value)
			}
		}
	}
	if wide < 500 {
		t.Errorf("only %d starts are not exact", wide)
	}
}

func TestRulesOfDerivativesAlongASystem(t *testing.T) {
	r := rand.New(rand.NewSource(12))
	of := must[api.Poly](t, "a polynomial")
	for range 300 {
		vars := 1 + r.Intn(3)
		s, p, q := someSystem(t, r, vars, 3, 2), somePoly(t, r, vars, 3, 3), somePoly(t, r, vars, 3, 3)
		lie := func(p api.Poly) api.Poly { return of(Lie(s, p)) }
		add := func(p, q api.Poly) api.Poly { return of(exact.AddPoly(p, q, vars)) }
		mul := func(p, q api.Poly) api.Poly { return of(exact.MulPoly(p, q, vars)) }
		expectPolys(t, "a sum", []api.Poly{lie(add(p, q))}, api.OK, []api.Poly{add(lie(p), lie(q))}, api.OK)
		expectPolys(t, "a product", []api.Poly{lie(mul(p, q))}, api.OK, []api.Poly{add(mul(lie(p), q), mul(p, lie(q)))}, api.OK)
	}
}

func TestRulesOfSeries(t *testing.T) {
	r := rand.New(rand.NewSource(13))
	of := must[api.Poly](t, "a polynomial")
	for range 200 {
		vars, order := 1+r.Intn(3), r.Intn(7)
		s, p, q := someSystem(t, r, vars, 3, 2), somePoly(t, r, vars, 3, 3), somePoly(t, r, vars, 3, 3)
		along := func(p api.Poly) power { return powerOf(must[[]api.Rat](t, "Along")(Along(s, p, order))) }
		same := func(what string, a, b power) {
			t.Helper()
			if !slices.EqualFunc(a, b, func(x, y *big.Rat) bool { return x.Cmp(y) == 0 }) {
				t.Errorf("%s: %v and %v", what, a, b)
			}
		}
		same("a sum", along(of(exact.AddPoly(p, q, vars))), along(p).plus(along(q), 1))
		same("a product", along(of(exact.MulPoly(p, q, vars))), along(p).times(along(q)))
		same("the derivative", along(of(Lie(s, p)))[:order], derived(along(p)))
	}
}

// derived returns the derivative of a series, which has a coefficient less.
func derived(p power) power {
	var list power
	for k, a := range p[1:] {
		list = append(list, new(big.Rat).Mul(a, big.NewRat(int64(k+1), 1)))
	}
	return list
}

func TestIntegralsHaveConstantSeries(t *testing.T) {
	for _, s := range []api.System{sys(t, "x: y; 2", "y: -x; 1/3"), sys(t, "x: x * y; 1", "y: -x * y; 4"), sys(t, "x: y * z; 1", "y: -2 * x * z; 2", "z: x * y; 3")} {
		basis := must[[]api.Poly](t, "Integrals")(Integrals(s, 2))
		if len(basis) == 0 {
			t.Errorf("%v has no integrals", s)
		}
		for _, p := range basis {
			series := must[[]api.Rat](t, "Along")(Along(s, p, 10))
			if slices.ContainsFunc(series[1:], func(a api.Rat) bool { return a != "0" }) {
				t.Errorf("the series of %v along %v is %v", p, s, series)
			}
		}
	}
}

// TestChangesKeepTheSeries compares the series of variables before and after changes.
func TestChangesKeepTheSeries(t *testing.T) {
	r := rand.New(rand.NewSource(14))
	of := must[api.System](t, "a change")
	for range 100 {
		vars := 1 + r.Intn(3)
		s, other, p := someSystem(t, r, vars, 3, 2), sys(t, "z: z^2 - t; 1"), somePoly(t, r, vars, 3, 2)
		series := func(s api.System) [][]api.Rat { return must[[][]api.Rat](t, "Series")(Series(s, 5)) }
		before := series(s)
		same := func(what string, got [][]api.Rat, order []int) {
			t.Helper()
			for i, v := range order {
				expectList(t, what, got[i], api.OK, before[v], api.OK)
			}
		}
		all := make([]int, vars)
		for v := range all {
			all[v] = v
		}
		order := r.Perm(vars)
		same("Permute", series(of(Permute(s, order))), order)
		needed := must[[]int](t, "Needed")(Needed(s, order[:1]))
		same("Sub", series(of(Sub(s, order[:1]))), needed)
		same("Join", series(of(Join(s, other))), all)
		same("Join", series(of(Join(other, s)))[1:], all)
		extended, autonomous := series(of(Extend(s, "z", p))), series(of(Autonomous(s, "z")))
		same("Extend", extended, all)
		same("Autonomous", autonomous, all)
		expectList(t, "the further variable", extended[vars], api.OK, must[[]api.Rat](t, "Along")(Along(s, p, 5)), api.OK)
		expectList(t, "the variable for t", autonomous[vars], api.OK, []api.Rat{"0", "1", "0", "0", "0", "0"}, api.OK)
	}
}
