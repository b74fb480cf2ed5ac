package equation

import (
	"strings"

	"integraph/api"
)

// mostDigits are as many digits as a number may have that replaces an operation on numbers.
const mostDigits = 9

// Simplify returns a simpler expression by fixed rules.
func Simplify(e api.Expr) (api.Expr, api.Errno) {
	if err := CheckExpr(e); err != api.OK {
		return api.Expr{}, err
	}
	return simple(e), api.OK
}

// simple returns the simple form, which is no larger, and shares no memory with the expression.
func simple(e api.Expr) api.Expr {
	args := make([]api.Expr, len(e.Args))
	for i, arg := range e.Args {
		args[i] = simple(arg)
	}
	e.Args = args
	if a, is := folded(e); is {
		return constant(a)
	}
	switch e.Op {
	case "+", "-":
		if len(args) == 1 {
			return simpleSign(e)
		}
		return simpleSum(e)
	case "*":
		return simpleProduct(e)
	case "/":
		return simpleQuotient(e)
	case "^":
		return simplePower(e)
	}
	return e
}

// folded returns the value of an operation on numbers and negatives of numbers, if it has a short one.
func folded(e api.Expr) (api.Rat, bool) {
	switch e.Op {
	case "+", "-", "*", "/", "^":
	default:
		return "", false
	}
	values := make([]api.Rat, len(e.Args))
	for i, arg := range e.Args {
		if !isConstant(arg) {
			return "", false
		}
		values[i], _ = evaluate(arg, nil)
	}
	a, err := operate(e, values)
	return a, err == api.OK && isShort(a)
}

// isConstant reports whether an expression is a number or the negative of one.
func isConstant(e api.Expr) bool {
	if isSign(e) {
		e = e.Args[0]
	}
	return e.Op == "number"
}

// isShort reports whether the numerator and the denominator have few digits.
func isShort(a api.Rat) bool {
	num, den, _ := strings.Cut(strings.TrimPrefix(string(a), "-"), "/")
	return len(num) <= mostDigits && len(den) <= mostDigits
}

func isSign(e api.Expr) bool { return e.Op == "-" && len(e.Args) == 1 }

// is reports whether an expression is a number with this text.
func is(e api.Expr, a api.Rat) bool { return e.Op == "number" && e.Value == a }

func simpleSign(e api.Expr) api.Expr {
	if a := e.Args[0]; isSign(a) {
		return a.Args[0]
	}
	return e
}

// simpleSum returns the simple form of a sum or a difference whose operands have theirs.
func simpleSum(e api.Expr) api.Expr {
	a, b := e.Args[0], e.Args[1]
	switch {
	case is(b, "0"):
		return a
	case is(a, "0") && e.Op == "+":
		return b
	case is(a, "0"):
		return negative(b)
	case isSign(b) && e.Op == "+":
		return call("-", a, b.Args[0])
	case isSign(b):
		return call("+", a, b.Args[0])
	}
	return e
}

func simpleProduct(e api.Expr) api.Expr {
	a, b := e.Args[0], e.Args[1]
	switch {
	case is(a, "0") || is(b, "0"):
		return literal("0")
	case is(a, "1"):
		return b
	case is(b, "1"):
		return a
	}
	return e
}

func simpleQuotient(e api.Expr) api.Expr {
	a, b := e.Args[0], e.Args[1]
	switch {
	case is(a, "0"):
		return literal("0")
	case is(b, "1"):
		return a
	}
	return e
}

func simplePower(e api.Expr) api.Expr {
	switch e.Value {
	case "0":
		return literal("1")
	case "1":
		return e.Args[0]
	}
	return e
}
