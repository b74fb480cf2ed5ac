package generate

import (
	"slices"
	"strconv"
	"strings"

	"integraph/api"
	"integraph/equation"
	"integraph/exact"
	"integraph/limits"
	"integraph/polynomial"
)

// width is the number of variables of polynomials while a system is made: as many as it may have in the end.
const width = api.MaxVars

// System returns the polynomial system of a problem.
func System(p api.Problem, bits int) (api.System, api.Errno) {
	inlined, err := equation.Inline(p)
	if err != api.OK {
		return api.System{}, err
	}
	if bits < 0 || bits > api.MaxBits {
		return api.System{}, api.ErrRange
	}
	names, values, err := equation.Variables(inlined)
	if err != api.OK {
		return api.System{}, err
	}
	auxiliaries, rates, err := makeRates(inlined)
	if err != api.OK {
		return api.System{}, err
	}
	s := api.System{Names: names, Rates: rates}
	for _, value := range values {
		s.Start = append(s.Start, api.Span{Low: value, High: value})
	}
	for i, a := range auxiliaries {
		start, err := a.start(s.Start, bits)
		if err != api.OK {
			return api.System{}, err
		}
		s.Names = append(s.Names, "u#"+strconv.Itoa(i+1))
		s.Start = append(s.Start, start)
	}
	return s, api.OK
}

// Sources returns what the auxiliary variables of a problem stand for.
func Sources(p api.Problem) ([]api.Expr, api.Errno) {
	inlined, err := equation.Inline(p)
	if err != api.OK {
		return nil, err
	}
	auxiliaries, _, err := makeRates(inlined)
	if err != api.OK {
		return nil, err
	}
	var sources []api.Expr
	for _, a := range auxiliaries {
		sources = append(sources, a.source())
	}
	return sources, api.OK
}

// makeRates returns the auxiliary variables of a problem without parameters, and the rates of all variables.
func makeRates(p api.Problem) ([]auxiliary, []api.Poly, api.Errno) {
	names, _, err := equation.Variables(p)
	if err != api.OK {
		return nil, nil, err
	}
	rights, err := equation.FirstOrder(p)
	if err != api.OK {
		return nil, nil, err
	}
	m := maker{numbers: map[string]int{"t": 0}, known: map[meaning]int{}}
	for i, name := range names {
		m.numbers[name] = i + 1
	}
	made, err := limits.All(rights, m.poly)
	if err != api.OK {
		return nil, nil, err
	}
	rates, err := m.rates(made)
	return m.auxiliaries, rates, err
}

// maker makes the polynomials of expressions.
type maker struct {
	numbers     map[string]int // of t and the variables of first order
	known       map[meaning]int
	auxiliaries []auxiliary
}

// meaning says for what an auxiliary variable stands: a function, and the text of a polynomial.
type meaning struct {
	function string
	of       string
}

// poly returns the polynomial of an expression, behind those of its operands.
func (m *maker) poly(e api.Expr) (api.Poly, api.Errno) {
	args, err := limits.All(e.Args, m.poly)
	if err != api.OK {
		return nil, err
	}
	switch e.Op {
	case "number":
		return constant(e.Value), api.OK
	case "name":
		return variable(m.numbers[e.Name]), api.OK
	case "+":
		return exact.AddPoly(args[0], args[1], width)
	case "-":
		last := len(args) - 1
		negative, err := exact.ScalePoly("-1", args[last], width)
		if err != api.OK || last == 0 {
			return negative, err
		}
		return exact.AddPoly(args[0], negative, width)
	case "*":
		return exact.MulPoly(args[0], args[1], width)
	case "/":
		below, err := m.function(reciprocal, args[1], e.Args[1])
		if err != api.OK {
			return nil, err
		}
		return exact.MulPoly(args[0], below, width)
	case "^":
		return m.power(args[0], e)
	}
	return m.function(e.Op, args[0], e.Args[0])
}

// power returns the polynomial of a power whose base has the polynomial u.
func (m *maker) power(u api.Poly, e api.Expr) (api.Poly, api.Errno) {
	n, err := exact.Int(e.Value)
	if n < 0 {
		u, err = m.function(reciprocal, u, e.Args[0])
		n = -n
	}
	if err != api.OK {
		return nil, err
	}
	power := api.Poly{{Factor: "1", Powers: []int{0, n}}}
	return exact.Compose(power, 1, []api.Poly{nil, u}, width)
}

// function returns the polynomial of a function of the polynomial u of an expression.
func (m *maker) function(function string, u api.Poly, operand api.Expr) (api.Poly, api.Errno) {
	arising := arisingWith(function)
	if c, is := numberOf(u); is {
		value, err := rationalValue(function, c)
		if err == api.OK {
			return constant(value), api.OK
		}
		if err != api.ErrNone {
			return nil, err
		}
		arising = []string{function}
	}
	of := textOf(u)
	for _, other := range arising {
		if _, isThere := m.known[meaning{other, of}]; isThere {
			continue
		}
		next := len(m.numbers) + len(m.auxiliaries) // t has the number 0
		if next > api.MaxVars {
			return nil, api.ErrMany
		}
		m.known[meaning{other, of}] = next
		m.auxiliaries = append(m.auxiliaries, auxiliary{other, u, operand})
	}
	return variable(m.known[meaning{function, of}]), api.OK
}

// rates returns the rates of all variables; those of first order have been made.
func (m *maker) rates(made []api.Poly) ([]api.Poly, api.Errno) {
	n := len(made) + len(m.auxiliaries)
	rates := make([]api.Poly, n)
	var x system
	for i := range n {
		var rate polynomial.Poly
		var err api.Errno
		if i < len(made) {
			rate, err = limits.ReadPoly(made[i], width)
		} else {
			rate, err = m.rate(x, m.auxiliaries[i-len(made)])
		}
		if err != api.OK {
			return nil, err
		}
		// A rate that is too large ends it before others are made of it.
		if rates[i], err = limits.WritePoly(slices.Values(rate), n); err != api.OK {
			return nil, err
		}
		x.rates = append(x.rates, rate)
	}
	return rates, api.OK
}

// rate returns the rate of an auxiliary variable, where x has those of the variables before it.
func (m *maker) rate(x system, a auxiliary) (polynomial.Poly, api.Errno) {
	u, err := limits.ReadPoly(a.of, width)
	if err != api.OK {
		return nil, err
	}
	inner := u.Along(x.rates)
	if len(inner) == 0 { // of a number there need not be the functions that stand in the rate
		return nil, api.OK
	}
	of := textOf(a.of)
	outer := kinds()[a.function].rate(func(function string) int { return m.known[meaning{function, of}] })
	return outer.Times(inner), api.OK
}

// constant returns the polynomial that is a number.
func constant(a api.Rat) api.Poly {
	if a == "0" {
		return nil
	}
	return api.Poly{{Factor: a, Powers: make([]int, width+1)}}
}

// variable returns the polynomial that is a variable; 0 is t.
func variable(v int) api.Poly {
	powers := make([]int, width+1)
	powers[v] = 1
	return api.Poly{{Factor: "1", Powers: powers}}
}

// numberOf returns the number that a polynomial is, and true, or false if it is none.
func numberOf(p api.Poly) (api.Rat, bool) {
	switch {
	case len(p) == 0:
		return "0", true
	case slices.Max(p[0].Powers) == 0:
		return p[0].Factor, true
	}
	return "", false
}

// textOf returns a text that no other polynomial has.
func textOf(p api.Poly) string {
	var text strings.Builder
	for _, t := range p {
		text.WriteString(string(t.Factor))
		for _, power := range t.Powers {
			text.WriteString(" ")
			text.WriteString(strconv.Itoa(power))
		}
		text.WriteString("\n")
	}
	return text.String()
}
