package equation

import (
	"strings"

	"integraph/api"
	"integraph/exact"
	"integraph/limits"
)

// Value returns the rational value of an expression.
func Value(e api.Expr, names []string, values []api.Rat) (api.Rat, api.Errno) {
	if err := CheckExpr(e); err != api.OK {
		return "", err
	}
	table, err := tabulate(names, values)
	if err != api.OK {
		return "", err
	}
	return valueOf(e, table)
}

// tabulate returns the values by their names.
func tabulate(names []string, values []api.Rat) (map[string]api.Rat, api.Errno) {
	if len(names) != len(values) {
		return nil, api.ErrShape
	}
	if len(names) > api.MaxList {
		return nil, api.ErrMany
	}
	table := map[string]api.Rat{}
	for i, name := range names {
		if !isName(name) {
			return nil, api.ErrName
		}
		if _, isThere := table[name]; isThere {
			return nil, api.ErrTwice
		}
		if err := exact.Check(values[i]); err != api.OK {
			return nil, err
		}
		table[name] = values[i]
	}
	return table, api.OK
}

// valueOf returns the value of an expression in which names occur that need not have one.
func valueOf(e api.Expr, values map[string]api.Rat) (api.Rat, api.Errno) {
	if hasOthers(e, values) {
		return "", api.ErrUnknown
	}
	return evaluate(e, values)
}

// evaluate returns the value of an expression whose names all have one.
func evaluate(e api.Expr, values map[string]api.Rat) (api.Rat, api.Errno) {
	args := make([]api.Rat, len(e.Args))
	for i, arg := range e.Args {
		value, err := evaluate(arg, values)
		if err != api.OK {
			return "", err
		}
		args[i] = value
	}
	if e.Op == "name" {
		return values[e.Name], api.OK
	}
	return operate(e, args)
}

// operate returns the value of an expression other than a name whose operands have these values.
func operate(e api.Expr, args []api.Rat) (api.Rat, api.Errno) {
	switch e.Op {
	case "number":
		return e.Value, api.OK
	case "+":
		return exact.Add(args[0], args[1])
	case "-":
		if len(args) == 1 {
			return exact.Sub("0", args[0])
		}
		return exact.Sub(args[0], args[1])
	case "*":
		return exact.Mul(args[0], args[1])
	case "/":
		return exact.Div(args[0], args[1])
	case "^":
		return raise(args[0], e.Value)
	case "min", "max":
		return choose(e.Op, args[0], args[1])
	case "delay":
		return "", api.ErrRefuse
	}
	return apply(e.Op, args[0])
}

// raise returns a power. Those with lesser exponents have no more digits.
func raise(a api.Rat, exponent api.Rat) (api.Rat, api.Errno) {
	n, err := exact.Int(exponent)
	if n < 0 {
		a, err = exact.Div("1", a)
		n = -n
	}
	result := api.Rat("1")
	for i := 0; i < n && err == api.OK; i++ {
		result, err = exact.Mul(result, a)
	}
	if err != api.OK {
		return "", err
	}
	return result, api.OK
}

// choose returns the lesser or the greater one of two numbers.
func choose(op string, a, b api.Rat) (api.Rat, api.Errno) {
	order, err := exact.Compare(a, b)
	if (order < 0) == (op == "min") {
		return a, err
	}
	return b, err
}

// apply returns the value of a function with one operand.
func apply(function string, a api.Rat) (api.Rat, api.Errno) {
	switch function {
	case "abs":
		return api.Rat(strings.TrimPrefix(string(a), "-")), api.OK
	case "floor":
		return exact.Floor(a)
	case "sign":
		return exact.Of(sign(a), 1)
	case "sqrt":
		return root(a)
	case "log":
		if sign(a) <= 0 {
			return "", api.ErrRange
		}
		// The logarithm at 1 + x is rational where sin and tan at x are, and has their value there.
		a, _ = exact.Sub(a, "1")
		fallthrough
	case "sin", "tan":
		return onlyAtZero(a, "0")
	}
	return onlyAtZero(a, "1") // cos, exp
}

// onlyAtZero returns the value of a function that has a rational one at 0 alone.
func onlyAtZero(a, value api.Rat) (api.Rat, api.Errno) {
	if a != "0" {
		return "", api.ErrNone
	}
	return value, api.OK
}

// sign returns -1, 0 or 1.
func sign(a api.Rat) int {
	switch {
	case a == "0":
		return 0
	case strings.HasPrefix(string(a), "-"):
		return -1
	}
	return 1
}

// root returns the square root, if it is rational.
func root(a api.Rat) (api.Rat, api.Errno) {
	if sign(a) < 0 {
		return "", api.ErrRange
	}
	square, err := limits.ReadRat(a)
	if err != api.OK {
		return "", err
	}
	result, isSquare := square.Root()
	if !isSquare {
		return "", api.ErrNone
	}
	return limits.WriteRat(result)
}
