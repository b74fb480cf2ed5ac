package equation

import (
	"slices"

	"integraph/api"
)

// Variables returns the names of the variables of first order, and their starts.
func Variables(p api.Problem) ([]string, []api.Rat, api.Errno) {
	_, starts, err := evaluateProblem(p)
	if err != api.OK {
		return nil, nil, err
	}
	var names []string
	for variable, order := range firstOrder(p.Equations) {
		names = append(names, derived(variable, order))
	}
	return names, starts, api.OK
}

// FirstOrder returns the right sides of the equations of first order.
func FirstOrder(p api.Problem) ([]api.Expr, api.Errno) {
	if err := CheckProblem(p); err != api.OK {
		return nil, err
	}
	var rights []api.Expr
	for _, equation := range p.Equations {
		for order := 1; order < equation.Order; order++ {
			rights = append(rights, name(derived(equation.Name, order)))
		}
		rights = append(rights, copied(equation.Right))
	}
	return rights, api.OK
}

// Inline returns a problem in which all parameters are replaced by their values.
func Inline(p api.Problem) (api.Problem, api.Errno) {
	params, starts, err := evaluateProblem(p)
	if err != api.OK {
		return api.Problem{}, err
	}
	inlined := api.Problem{Name: p.Name, End: p.End}
	for _, equation := range p.Equations {
		equation.Right, err = result(replaced(equation.Right, func(name string) (api.Expr, bool) {
			value, isParam := params[name]
			return constant(value), isParam
		}))
		if err != api.OK {
			return api.Problem{}, err
		}
		inlined.Equations = append(inlined.Equations, equation)
	}
	for i, start := range p.Starts {
		start.Value = constant(starts[i])
		inlined.Starts = append(inlined.Starts, start)
	}
	return inlined, api.OK
}

// Rename returns a problem in which a variable or parameter has another name.
func Rename(p api.Problem, from, to string) (api.Problem, api.Errno) {
	if err := CheckProblem(p); err != api.OK {
		return api.Problem{}, err
	}
	if !isNamed(p, from) {
		return api.Problem{}, api.ErrUnknown
	}
	if !IsVariable(to) {
		return api.Problem{}, api.ErrName
	}
	if isNamed(p, to) {
		return api.Problem{}, api.ErrTwice
	}
	rename := func(old string) string {
		base, order := split(old)
		if base != from {
			return old
		}
		return derived(to, order)
	}
	return rebuilt(p, rename, func(e api.Expr) api.Expr {
		return replaced(e, func(old string) (api.Expr, bool) { return name(rename(old)), true })
	}), api.OK
}

// isNamed reports whether a variable or a parameter of a problem has this name.
func isNamed(p api.Problem, name string) bool {
	isParam := slices.ContainsFunc(p.Params, func(param api.Given) bool { return param.Name == name })
	return isParam || isVariableOf(p, name)
}

func isVariableOf(p api.Problem, name string) bool {
	return slices.ContainsFunc(p.Equations, func(equation api.Equation) bool { return equation.Name == name })
}

// rebuilt returns a problem with other names of variables and parameters, and other expressions.
func rebuilt(p api.Problem, rename func(name string) string, change func(e api.Expr) api.Expr) api.Problem {
	p.Params, p.Equations, p.Starts = slices.Clone(p.Params), slices.Clone(p.Equations), slices.Clone(p.Starts)
	for _, list := range [][]api.Given{p.Params, p.Starts} {
		for i := range list {
			list[i].Name, list[i].Value = rename(list[i].Name), change(list[i].Value)
		}
	}
	for i := range p.Equations {
		equation := &p.Equations[i]
		equation.Name, equation.Right = rename(equation.Name), change(equation.Right)
	}
	return p
}

// Depends returns the variables on which a variable depends.
func Depends(p api.Problem, name string) ([]string, api.Errno) {
	if err := CheckProblem(p); err != api.OK {
		return nil, err
	}
	if !isVariableOf(p, name) {
		return nil, api.ErrUnknown
	}
	reached := reachedFrom(p, name)
	var list []string
	for _, equation := range p.Equations {
		if reached[equation.Name] {
			list = append(list, equation.Name)
		}
	}
	return list, api.OK
}

// reachedFrom returns the variables on which a variable depends; among them may be parameters and t.
func reachedFrom(p api.Problem, name string) map[string]bool {
	rights := map[string]api.Expr{}
	for _, equation := range p.Equations {
		rights[equation.Name] = equation.Right
	}
	reached := map[string]bool{}
	var visit func(name string)
	visit = func(name string) {
		for _, part := range inside(rights[name]) {
			if base, _ := split(part.Name); part.Op == "name" && !reached[base] {
				reached[base] = true
				visit(base)
			}
		}
	}
	visit(name)
	return reached
}

// Part returns the problem of some variables and of all on which they depend.
func Part(p api.Problem, names []string) (api.Problem, api.Errno) {
	if err := CheckProblem(p); err != api.OK {
		return api.Problem{}, err
	}
	if len(names) == 0 {
		return api.Problem{}, api.ErrEmpty
	}
	kept := map[string]bool{}
	for _, name := range names {
		if !isVariableOf(p, name) {
			return api.Problem{}, api.ErrUnknown
		}
		if kept[name] {
			return api.Problem{}, api.ErrTwice
		}
		kept[name] = true
	}
	for _, name := range names {
		for other := range reachedFrom(p, name) {
			kept[other] = true
		}
	}
	p.Equations = slices.DeleteFunc(slices.Clone(p.Equations), func(equation api.Equation) bool { return !kept[equation.Name] })
	p.Starts = slices.DeleteFunc(slices.Clone(p.Starts), func(start api.Given) bool { return !kept[start.Name] })
	same := func(name string) string { return name }
	return rebuilt(p, same, copied), api.OK
}
