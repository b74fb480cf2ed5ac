package equation

import (
	"iter"
	"maps"
	"slices"
	"strings"

	"integraph/api"
	"integraph/exact"
)

// inside visits the expressions in an expression, with their depths. Whoever stops it early may also look at an
// expression that contains itself.
func inside(e api.Expr) iter.Seq2[int, api.Expr] {
	return func(yield func(int, api.Expr) bool) {
		var walk func(depth int, e api.Expr) bool
		walk = func(depth int, e api.Expr) bool {
			if !yield(depth, e) {
				return false
			}
			for _, arg := range e.Args {
				if !walk(depth+1, arg) {
					return false
				}
			}
			return true
		}
		walk(1, e)
	}
}

// CheckExpr returns the first error of an expression, or OK.
func CheckExpr(e api.Expr) api.Errno {
	if _, _, err := measure(e); err != api.OK {
		return err
	}
	for _, part := range inside(e) {
		if err := checkOne(part); err != api.OK {
			return err
		}
	}
	return api.OK
}

// measure returns the numbers of expressions and of levels in an expression that need not be well-formed.
func measure(e api.Expr) (int, int, api.Errno) {
	count, deepest := 0, 0
	for depth := range inside(e) {
		count++
		if count > api.MaxNodes {
			return 0, 0, api.ErrMany
		}
		deepest = max(deepest, depth)
	}
	if deepest > api.MaxDepth {
		return 0, 0, api.ErrLimit
	}
	return count, deepest, api.OK
}

// checkOne returns the first error of an expression apart from those of its operands, or OK.
func checkOne(e api.Expr) api.Errno {
	least, most, isKnown := shape(e.Op)
	if !isKnown {
		return api.ErrKind
	}
	if len(e.Args) < least || len(e.Args) > most {
		return api.ErrShape
	}
	switch e.Op {
	case "number":
		return checkNumber(e)
	case "name":
		return checkName(e)
	case "^":
		return checkPower(e)
	}
	if e.Value != "" || e.Name != "" {
		return api.ErrForm
	}
	return api.OK
}

// shape returns the least and the greatest number of operands of an operation, and whether there is such a one.
func shape(op string) (int, int, bool) {
	switch op {
	case "number", "name":
		return 0, 0, true
	case "-":
		return 1, 2, true
	case "+", "*", "/":
		return 2, 2, true
	case "^":
		return 1, 1, true
	}
	n := operands(op)
	return n, n, n > 0
}

func checkNumber(e api.Expr) api.Errno {
	if err := exact.Check(e.Value); err != api.OK {
		return err
	}
	if strings.HasPrefix(string(e.Value), "-") {
		return api.ErrRange
	}
	if e.Name != "" {
		return api.ErrForm
	}
	return api.OK
}

func checkName(e api.Expr) api.Errno {
	if !isName(e.Name) {
		return api.ErrName
	}
	if e.Value != "" {
		return api.ErrForm
	}
	return api.OK
}

func checkPower(e api.Expr) api.Errno {
	n, err := exact.Int(e.Value)
	if err != api.OK {
		return err
	}
	if n < -mostExponent || n > mostExponent {
		return api.ErrRange
	}
	if e.Name != "" {
		return api.ErrForm
	}
	return api.OK
}

// Size returns the numbers of expressions and of levels in an expression.
func Size(e api.Expr) (int, int, api.Errno) {
	if err := CheckExpr(e); err != api.OK {
		return 0, 0, err
	}
	return measure(e)
}

// Names returns the names in an expression.
func Names(e api.Expr) ([]string, api.Errno) {
	if err := CheckExpr(e); err != api.OK {
		return nil, err
	}
	return collect(e, func(part api.Expr) (string, bool) { return part.Name, part.Op == "name" }), api.OK
}

// Refused returns the functions in an expression that the machine cannot generate.
func Refused(e api.Expr) ([]string, api.Errno) {
	if err := CheckExpr(e); err != api.OK {
		return nil, err
	}
	return collect(e, func(part api.Expr) (string, bool) { return part.Op, isRefused(part.Op) }), api.OK
}

// collect returns the words of the expressions in an expression that have one, each once, in ascending order.
func collect(e api.Expr, word func(part api.Expr) (string, bool)) []string {
	words := map[string]bool{}
	for _, part := range inside(e) {
		if s, has := word(part); has {
			words[s] = true
		}
	}
	return slices.Sorted(maps.Keys(words))
}

// hasRefused reports whether a function occurs that the machine cannot generate.
func hasRefused(e api.Expr) bool {
	for _, part := range inside(e) {
		if isRefused(part.Op) {
			return true
		}
	}
	return false
}

// hasOthers reports whether a name occurs that is not among the keys of a map.
func hasOthers[T any](e api.Expr, names map[string]T) bool {
	for _, part := range inside(e) {
		if _, isKnown := names[part.Name]; part.Op == "name" && !isKnown {
			return true
		}
	}
	return false
}

// replaced returns an expression with others in the places of some names. The result shares memory with these
// others alone.
func replaced(e api.Expr, by func(name string) (api.Expr, bool)) api.Expr {
	if e.Op == "name" {
		if other, is := by(e.Name); is {
			return other
		}
	}
	args := make([]api.Expr, len(e.Args))
	for i, arg := range e.Args {
		args[i] = replaced(arg, by)
	}
	e.Args = args
	return e
}

// copied returns an expression that shares no memory with another one, nor its parts with each other.
func copied(e api.Expr) api.Expr {
	return replaced(e, func(string) (api.Expr, bool) { return api.Expr{}, false })
}
