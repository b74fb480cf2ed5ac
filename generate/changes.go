package generate

import (
	"slices"

	"integraph/api"
	"integraph/exact"
	"integraph/limits"
)

// mostVariablesOfOrders is the greatest number of variables for which all orders are tried.
const mostVariablesOfOrders = 6

// Extend returns a system with a further variable that is a polynomial of the others.
func Extend(s api.System, name string, p api.Poly) (api.System, api.Errno) {
	x, err := readFurther(s, name)
	if err != api.OK {
		return api.System{}, err
	}
	n := len(s.Names)
	q, err := limits.ReadPoly(p, n)
	if err != api.OK {
		return api.System{}, err
	}
	if n == api.MaxVars {
		return api.System{}, api.ErrMany
	}
	rate, err := limits.WritePoly(slices.Values(q.Along(x.rates)), n+1)
	if err != api.OK {
		return api.System{}, err
	}
	start, err := exact.EvalSpans(p, slices.Concat([]api.Span{{Low: "0", High: "0"}}, s.Start))
	if err != api.OK {
		return api.System{}, err
	}
	extended := placed(s, places(n, 0), n+1)
	return appended(extended, name, rate, start), api.OK
}

// Autonomous returns a system in which t is a variable.
func Autonomous(s api.System, name string) (api.System, api.Errno) {
	if _, err := readFurther(s, name); err != api.OK {
		return api.System{}, err
	}
	n := len(s.Names)
	if n == api.MaxVars {
		return api.System{}, api.ErrMany
	}
	to := places(n, 0)
	to[0] = n + 1
	one := api.Poly{{Factor: "1", Powers: make([]int, n+2)}}
	return appended(placed(s, to, n+1), name, one, api.Span{Low: "0", High: "0"}), api.OK
}

// readFurther returns the value of a system, or its error or that of the name of a further variable.
func readFurther(s api.System, name string) (system, api.Errno) {
	x, err := readSystem(s)
	if err != api.OK {
		return system{}, err
	}
	return x, checkName(name, s.Names)
}

// appended returns a system with a further variable.
func appended(s api.System, name string, rate api.Poly, start api.Span) api.System {
	return api.System{Names: append(s.Names, name), Rates: append(s.Rates, rate), Start: append(s.Start, start)}
}

// places returns for t and for each of n variables, as many places behind as by says, where it comes to stand.
func places(n, by int) []int {
	to := make([]int, n+1)
	for v := 1; v <= n; v++ {
		to[v] = v + by
	}
	return to
}

// placed returns the variables of a system, with rates in vars variables where t and each variable v stand in the
// place to[v].
func placed(s api.System, to []int, vars int) api.System {
	rates := make([]api.Poly, len(s.Rates))
	for i, rate := range s.Rates {
		rates[i] = placedPoly(rate, to, vars)
	}
	return api.System{Names: slices.Clone(s.Names), Rates: rates, Start: slices.Clone(s.Start)}
}

// placedPoly returns a polynomial in vars variables where t and each variable v stand in the place to[v].
func placedPoly(p api.Poly, to []int, vars int) api.Poly {
	terms := make([]api.Term, len(p))
	for i, t := range p {
		powers := make([]int, vars+1)
		for v, power := range t.Powers {
			if power > 0 { // what does not occur may have no place
				powers[to[v]] = power
			}
		}
		terms[i] = api.Term{Factor: t.Factor, Powers: powers}
	}
	q, _ := exact.Normal(terms, vars) // of the same size
	return q
}

// Needed returns the variables on which some variables depend, and these.
func Needed(s api.System, list []int) ([]int, api.Errno) {
	x, err := readSystem(s)
	if err != api.OK {
		return nil, err
	}
	if len(list) == 0 {
		return nil, api.ErrEmpty
	}
	if err := checkNumbers(list, len(x.rates)); err != api.OK {
		return nil, err
	}
	return x.needed(list), api.OK
}

// checkNumbers returns the first error of numbers of n variables, or OK.
func checkNumbers(list []int, n int) api.Errno {
	for i, v := range list {
		if v < 0 || v >= n {
			return api.ErrUnknown
		}
		if slices.Contains(list[:i], v) {
			return api.ErrTwice
		}
	}
	return api.OK
}

// needed returns the variables of a list and those that they need, in ascending order.
func (x system) needed(list []int) []int {
	reached := make([]bool, len(x.rates))
	var visit func(v int)
	visit = func(v int) {
		if reached[v] {
			return
		}
		reached[v] = true
		for _, t := range x.rates[v] {
			for w := range x.rates {
				if t.Powers[w+1] > 0 {
					visit(w)
				}
			}
		}
	}
	for _, v := range list {
		visit(v)
	}
	var needed []int
	for v, is := range reached {
		if is {
			needed = append(needed, v)
		}
	}
	return needed
}

// Sub returns the system of some variables and of those on which they depend.
func Sub(s api.System, list []int) (api.System, api.Errno) {
	needed, err := Needed(s, list)
	if err != api.OK {
		return api.System{}, err
	}
	return chosen(s, needed), api.OK
}

// chosen returns the system whose variable number i is variable number list[i] of s; they need no others.
func chosen(s api.System, list []int) api.System {
	var part api.System
	to := make([]int, len(s.Names)+1)
	for i, v := range list {
		part.Names = append(part.Names, s.Names[v])
		part.Rates = append(part.Rates, s.Rates[v])
		part.Start = append(part.Start, s.Start[v])
		to[v+1] = i + 1
	}
	return placed(part, to, len(list))
}

// Join returns the system of the variables of two systems.
func Join(a, b api.System) (api.System, api.Errno) {
	if _, _, err := limits.Two(a, b, readSystem); err != api.OK {
		return api.System{}, err
	}
	for _, name := range b.Names {
		if slices.Contains(a.Names, name) {
			return api.System{}, api.ErrTwice
		}
	}
	m, n := len(a.Names), len(b.Names)
	if m+n > api.MaxVars {
		return api.System{}, api.ErrMany
	}
	first, second := placed(a, places(m, 0), m+n), placed(b, places(n, m), m+n)
	return api.System{
		Names: slices.Concat(first.Names, second.Names),
		Rates: slices.Concat(first.Rates, second.Rates),
		Start: slices.Concat(first.Start, second.Start),
	}, api.OK
}

// Permute returns a system with its variables in another order.
func Permute(s api.System, order []int) (api.System, api.Errno) {
	if err := CheckSystem(s); err != api.OK {
		return api.System{}, err
	}
	if len(order) != len(s.Names) {
		return api.System{}, api.ErrShape
	}
	if err := checkNumbers(order, len(s.Names)); err != api.OK {
		return api.System{}, err
	}
	return chosen(s, order), api.OK
}

// Equal reports whether two systems are the same but for names and order, and shows the order.
func Equal(a, b api.System) ([]int, bool, api.Errno) {
	if _, _, err := limits.Two(a, b, readSystem); err != api.OK {
		return nil, false, err
	}
	n := len(a.Names)
	if n != len(b.Names) {
		return nil, false, api.OK
	}
	if n > mostVariablesOfOrders {
		return nil, false, api.ErrLimit
	}
	order, found := firstOrder(n, func(order []int) bool { return areSame(chosen(a, order), b) })
	return order, found, api.OK
}

// firstOrder returns the lexicographically first order of the numbers below n that is right, if there is one.
func firstOrder(n int, isRight func(order []int) bool) ([]int, bool) {
	order := make([]int, 0, n)
	var try func() bool
	try = func() bool {
		if len(order) == n {
			return isRight(order)
		}
	numbers:
		for v := range n {
			for _, before := range order {
				if v == before {
					continue numbers
				}
			}
			order = append(order, v)
			if try() {
				return true
			}
			order = order[:len(order)-1]
		}
		return false
	}
	if try() {
		return order, true
	}
	return nil, false
}

// areSame reports whether systems with as many variables have the same rates and starts.
func areSame(a, b api.System) bool {
	sameTerm := func(t, u api.Term) bool { return t.Factor == u.Factor && slices.Equal(t.Powers, u.Powers) }
	sameRate := func(p, q api.Poly) bool { return slices.EqualFunc(p, q, sameTerm) }
	return slices.Equal(a.Start, b.Start) && slices.EqualFunc(a.Rates, b.Rates, sameRate)
}
