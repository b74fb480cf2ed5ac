package equation

import (
	"integraph/api"
	"integraph/exact"
)

// Derive returns the derivative of an expression with respect to a name.
func Derive(e api.Expr, name string) (api.Expr, api.Errno) {
	if err := CheckExpr(e); err != api.OK {
		return api.Expr{}, err
	}
	if !isName(name) {
		return api.Expr{}, api.ErrName
	}
	if hasRefused(e) {
		return api.Expr{}, api.ErrRefuse
	}
	return result(derivative(e, name))
}

// Substitute returns an expression in which a name is replaced by another expression.
func Substitute(e api.Expr, name string, by api.Expr) (api.Expr, api.Errno) {
	if err := CheckExpr(e); err != api.OK {
		return api.Expr{}, err
	}
	if !isName(name) {
		return api.Expr{}, api.ErrName
	}
	if err := CheckExpr(by); err != api.OK {
		return api.Expr{}, err
	}
	return result(replaced(e, func(other string) (api.Expr, bool) { return by, other == name }))
}

// result returns an expression in memory of its own, or the error of one that is too large.
func result(e api.Expr) (api.Expr, api.Errno) {
	if _, _, err := measure(e); err != api.OK {
		return api.Expr{}, err
	}
	return copied(e), api.OK
}

// derivative returns the derivative of an expression without refused functions, of any size.
func derivative(e api.Expr, name string) api.Expr {
	rules := rulesOfFunctions()
	var derive func(e api.Expr) api.Expr
	derive = func(e api.Expr) api.Expr {
		rates := make([]api.Expr, len(e.Args))
		for i, arg := range e.Args {
			rates[i] = derive(arg)
		}
		switch e.Op {
		case "number":
			return whole(0)
		case "name":
			if e.Name == name {
				return whole(1)
			}
			return whole(0)
		case "+", "-":
			return call(e.Op, rates...)
		case "*":
			return rateOfProduct("+", e.Args, rates)
		case "/":
			return call("/", rateOfProduct("-", e.Args, rates), power(e.Args[1], 2))
		case "^":
			return rateOfPower(e, rates[0])
		}
		return rules[e.Op](e.Args[0], rates[0])
	}
	return derive(e)
}

// rateOfProduct returns the rate of the first factor times the second one, and, behind an operator, the first one
// times the rate of the second one.
func rateOfProduct(operator string, factors, rates []api.Expr) api.Expr {
	return call(operator, call("*", rates[0], factors[1]), call("*", factors[0], rates[1]))
}

// rateOfPower returns the derivative of a power whose base has this one.
func rateOfPower(e api.Expr, rate api.Expr) api.Expr {
	base := e.Args[0]
	n, _ := exact.Int(e.Value)
	switch {
	case n == 0:
		return whole(0)
	case n > 0:
		return call("*", call("*", whole(n), power(base, n-1)), rate)
	}
	return negative(call("*", call("/", call("*", whole(-n), power(base, n)), base), rate))
}

// rulesOfFunctions returns, for each function that can be derived, the derivative at an operand with some rate.
func rulesOfFunctions() map[string]func(a, rate api.Expr) api.Expr {
	return map[string]func(a, rate api.Expr) api.Expr{
		"sin": func(a, rate api.Expr) api.Expr { return call("*", call("cos", a), rate) },
		"cos": func(a, rate api.Expr) api.Expr { return negative(call("*", call("sin", a), rate)) },
		"tan": func(a, rate api.Expr) api.Expr {
			return call("*", call("+", whole(1), power(call("tan", a), 2)), rate)
		},
		"exp":  func(a, rate api.Expr) api.Expr { return call("*", call("exp", a), rate) },
		"log":  func(a, rate api.Expr) api.Expr { return call("/", rate, a) },
		"sqrt": func(a, rate api.Expr) api.Expr { return call("/", rate, call("*", whole(2), call("sqrt", a))) },
	}
}
