package equation

import (
	"strings"

	"integraph/api"
)

// Print returns the text of an expression.
func Print(e api.Expr) (string, api.Errno) {
	if err := CheckExpr(e); err != api.OK {
		return "", err
	}
	text := printed(e)
	if len(text) > api.MaxText {
		return "", api.ErrLong
	}
	return text, api.OK
}

// printed returns the text of an expression, of any length.
func printed(e api.Expr) string {
	var b strings.Builder
	var write func(e api.Expr, least int)
	writeOne := func(e api.Expr, level int) {
		switch level {
		case sumLevel, productLevel:
			write(e.Args[0], level)
			b.WriteString(" " + e.Op + " ")
			write(e.Args[1], level+1)
		case signLevel:
			b.WriteString(e.Op)
			write(e.Args[0], level)
		case powerLevel:
			write(e.Args[0], primaryLevel)
			b.WriteString(e.Op + string(e.Value))
		default:
			b.WriteString(start(e))
			for i, arg := range e.Args {
				if i > 0 {
					b.WriteString(", ")
				}
				write(arg, sumLevel)
			}
			if len(e.Args) > 0 {
				b.WriteString(")")
			}
		}
	}
	write = func(e api.Expr, least int) {
		level := levelOf(e)
		if level >= least {
			writeOne(e, level)
			return
		}
		b.WriteString("(")
		writeOne(e, level)
		b.WriteString(")")
	}
	write(e, sumLevel)
	return b.String()
}

// levelOf returns the highest level of the grammar at which an expression is read without parentheses around it.
func levelOf(e api.Expr) int {
	switch {
	case e.Op == "+" || e.Op == "-" && len(e.Args) == 2:
		return sumLevel
	case e.Op == "*" || e.Op == "/":
		return productLevel
	case e.Op == "-":
		return signLevel
	case e.Op == "^":
		return powerLevel
	}
	return primaryLevel
}

// start returns what stands before the operands of a number, a name or a function.
func start(e api.Expr) string {
	switch e.Op {
	case "number":
		return string(e.Value)
	case "name":
		return e.Name
	}
	return e.Op + "("
}
