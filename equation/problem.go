package equation

import (
	"iter"
	"slices"

	"integraph/api"
	"integraph/exact"
)

// CheckProblem returns the first error of a problem, or OK.
func CheckProblem(p api.Problem) api.Errno {
	_, _, err := evaluateProblem(p)
	return err
}

// evaluateProblem returns the values of the parameters of a problem by their names, and those of its starts, or its
// first error.
func evaluateProblem(p api.Problem) (map[string]api.Rat, []api.Rat, api.Errno) {
	if !exact.IsName(p.Name) {
		return nil, nil, api.ErrName
	}
	params, err := evaluateParameters(p.Params)
	if err != api.OK {
		return nil, nil, err
	}
	if err := checkEquations(p.Equations, params); err != api.OK {
		return nil, nil, err
	}
	if err := checkRightSides(p.Equations, params); err != api.OK {
		return nil, nil, err
	}
	starts, err := evaluateStarts(p, params)
	if err != api.OK {
		return nil, nil, err
	}
	if err := exact.Check(p.End); err != api.OK {
		return nil, nil, err
	}
	if sign(p.End) <= 0 {
		return nil, nil, api.ErrRange
	}
	return params, starts, api.OK
}

// evaluateParameters returns the values of parameters, or their first error.
func evaluateParameters(params []api.Given) (map[string]api.Rat, api.Errno) {
	if len(params) > api.MaxParams {
		return nil, api.ErrMany
	}
	values := map[string]api.Rat{}
	for _, param := range params {
		if !IsVariable(param.Name) {
			return nil, api.ErrName
		}
		if _, isThere := values[param.Name]; isThere {
			return nil, api.ErrTwice
		}
		if param.Order != 0 {
			return nil, api.ErrForm
		}
		value, err := evaluateAny(param.Value, values)
		if err != api.OK {
			return nil, err
		}
		values[param.Name] = value
	}
	return values, api.OK
}

// evaluateAny returns the value of an expression that need not be well-formed.
func evaluateAny(e api.Expr, values map[string]api.Rat) (api.Rat, api.Errno) {
	if err := CheckExpr(e); err != api.OK {
		return "", err
	}
	return valueOf(e, values)
}

// checkEquations returns the first error of equations apart from their right sides, or OK.
func checkEquations(equations []api.Equation, params map[string]api.Rat) api.Errno {
	if len(equations) == 0 {
		return api.ErrEmpty
	}
	if len(equations) > api.MaxVars {
		return api.ErrMany
	}
	sum := 0
	names := map[string]bool{}
	for _, equation := range equations {
		if !IsVariable(equation.Name) {
			return api.ErrName
		}
		if _, isParam := params[equation.Name]; isParam || names[equation.Name] {
			return api.ErrTwice
		}
		if equation.Order < 1 || equation.Order > mostOrder {
			return api.ErrRange
		}
		names[equation.Name] = true
		sum += equation.Order
	}
	if sum > api.MaxVars {
		return api.ErrMany
	}
	return api.OK
}

// checkRightSides returns the first error of the right sides of equations, or OK.
func checkRightSides(equations []api.Equation, params map[string]api.Rat) api.Errno {
	permitted := map[string]bool{time: true}
	for name := range params {
		permitted[name] = true
	}
	for variable, order := range firstOrder(equations) {
		permitted[derived(variable, order)] = true
	}
	for _, equation := range equations {
		if err := CheckExpr(equation.Right); err != api.OK {
			return err
		}
		if hasRefused(equation.Right) {
			return api.ErrRefuse
		}
		if hasOthers(equation.Right, permitted) {
			return api.ErrUnknown
		}
	}
	return api.OK
}

// firstOrder visits the variables of first order: the names of those of which they are derivatives, and the orders.
func firstOrder(equations []api.Equation) iter.Seq2[string, int] {
	return func(yield func(string, int) bool) {
		for _, equation := range equations {
			for order := range equation.Order {
				if !yield(equation.Name, order) {
					return
				}
			}
		}
	}
}

// evaluateStarts returns the values of the starts of a problem, or their first error.
func evaluateStarts(p api.Problem, params map[string]api.Rat) ([]api.Rat, api.Errno) {
	var values []api.Rat
	for variable, order := range firstOrder(p.Equations) {
		place := slices.IndexFunc(p.Starts, func(start api.Given) bool {
			return start.Name == variable && start.Order == order
		})
		if place < 0 {
			return nil, api.ErrNone
		}
		if place != len(values) {
			return nil, api.ErrOrder
		}
		value, err := evaluateAny(p.Starts[place].Value, params)
		if err != api.OK {
			return nil, err
		}
		values = append(values, value)
	}
	if len(p.Starts) > len(values) {
		return nil, api.ErrMany
	}
	return values, api.OK
}
