package generate

import (
	"slices"

	"integraph/api"
	"integraph/exact"
	"integraph/number"
	"integraph/polynomial"
)

// Functions of auxiliary variables that have no name in the language of equations.
const (
	reciprocal = "reciprocal"
	rsqrt      = "rsqrt"
)

// auxiliary is an auxiliary variable: its function, the polynomial of which it is this function, and the expression
// that has this polynomial.
type auxiliary struct {
	function string
	of       api.Poly
	operand  api.Expr
}

// kind is what a function is for auxiliary variables.
type kind struct {
	// rate returns by what the rate of the operand is multiplied in that of the variable; number says which variables
	// stand for functions of the same operand.
	rate func(number func(function string) int) polynomial.Poly
}

// kinds returns the kinds of all functions.
func kinds() map[string]kind {
	one, half := number.Whole(1), unit(1)
	power := func(factor number.Fraction, function string, n int) kind {
		return kind{rate: func(number func(function string) int) polynomial.Poly {
			return polynomial.Single(factor, polynomial.Raised(number(function), n))
		}}
	}
	return map[string]kind{
		reciprocal: power(one.Negative(), reciprocal, 2),
		"sin":      power(one, "cos", 1),
		"cos":      power(one.Negative(), "sin", 1),
		"tan": {rate: func(number func(function string) int) polynomial.Poly {
			return polynomial.Single(one, polynomial.Powers{}).Plus(polynomial.Single(one, polynomial.Raised(number("tan"), 2)))
		}},
		"exp":  power(one, "exp", 1),
		"log":  power(one, reciprocal, 1),
		"sqrt": power(half, rsqrt, 1),
		rsqrt:  power(half.Negative(), rsqrt, 3),
	}
}

// arisingWith returns the functions of a polynomial that become auxiliary variables together with one of them.
func arisingWith(function string) []string {
	switch function {
	case "sin", "cos":
		return []string{"sin", "cos"}
	case "log":
		return []string{"log", reciprocal}
	case "sqrt":
		return []string{"sqrt", rsqrt}
	}
	return []string{function}
}

// start returns the start of an auxiliary variable, where starts has those of the variables before it.
func (a auxiliary) start(starts []api.Span, bits int) (api.Span, api.Errno) {
	point := slices.Repeat([]api.Rat{"0"}, width+1)
	for i, s := range starts {
		if s.Low != s.High && occurs(a.of, i+1) {
			return api.Span{}, api.ErrNone
		}
		point[i+1] = s.Low
	}
	value, err := exact.EvalPoly(a.of, point)
	if err != api.OK {
		return api.Span{}, err
	}
	return Enclose(a.function, value, bits)
}

// occurs reports whether a variable occurs in a polynomial.
func occurs(p api.Poly, v int) bool {
	return slices.ContainsFunc(p, func(t api.Term) bool { return t.Powers[v] > 0 })
}

// source returns the expression for which an auxiliary variable stands.
func (a auxiliary) source() api.Expr {
	operand := copied(a.operand)
	switch a.function {
	case reciprocal:
		return overOne(operand)
	case rsqrt:
		return overOne(api.Expr{Op: "sqrt", Args: []api.Expr{operand}})
	}
	return api.Expr{Op: a.function, Args: []api.Expr{operand}}
}

// overOne returns the quotient of 1 and an expression.
func overOne(e api.Expr) api.Expr {
	return api.Expr{Op: "/", Args: []api.Expr{{Op: "number", Value: "1"}, e}}
}

// copied returns an expression that shares no memory with another one.
func copied(e api.Expr) api.Expr {
	args := make([]api.Expr, len(e.Args))
	for i, arg := range e.Args {
		args[i] = copied(arg)
	}
	e.Args = args
	return e
}
