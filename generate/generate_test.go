package generate

import (
	"math/big"
	"math/rand"
	"slices"
	"strconv"
	"strings"
	"testing"

	"integraph/api"
	"integraph/equation"
	"integraph/exact"
)

// digits returns a digit n times.
func digits(digit string, n int) string { return strings.Repeat(digit, n) }

// expectError reports an error that is not the wanted one.
func expectError(t *testing.T, what string, got, want api.Errno) {
	t.Helper()
	if got != want {
		t.Errorf("%s: got the error %d, want %d", what, got, want)
	}
}

// expectList reports a list, or an error, that is not the wanted one.
func expectList[T comparable](t *testing.T, what string, got []T, err api.Errno, want []T, wantError api.Errno) {
	t.Helper()
	if !slices.Equal(got, want) || err != wantError {
		t.Errorf("%s: got %v and the error %d, want %v and %d", what, got, err, want, wantError)
	}
}

// expectSystem reports a system, or an error, that is not the wanted one.
func expectSystem(t *testing.T, what string, got api.System, err api.Errno, want api.System, wantError api.Errno) {
	t.Helper()
	if !slices.Equal(got.Names, want.Names) || !sameParts(got, want) || err != wantError {
		t.Errorf("%s: got %v and the error %d, want %v and %d", what, got, err, want, wantError)
	}
	if err == api.OK {
		expectError(t, "CheckSystem of "+what, CheckSystem(got), api.OK)
	}
}

// expectPolys reports polynomials, or an error, that are not the wanted ones.
func expectPolys(t *testing.T, what string, got []api.Poly, err api.Errno, want []api.Poly, wantError api.Errno) {
	t.Helper()
	if !slices.EqualFunc(got, want, samePoly) || err != wantError {
		t.Errorf("%s: got %v and the error %d, want %v and %d", what, got, err, want, wantError)
	}
}

// sameParts reports whether systems have the same rates and starts.
func sameParts(a, b api.System) bool {
	return slices.EqualFunc(a.Rates, b.Rates, samePoly) && slices.Equal(a.Start, b.Start)
}

func samePoly(p, q api.Poly) bool {
	return slices.EqualFunc(p, q, func(a, b api.Term) bool {
		return a.Factor == b.Factor && slices.Equal(a.Powers, b.Powers)
	})
}

// must returns a result that has no error.
func must[T any](t *testing.T, what string) func(result T, err api.Errno) T {
	return func(result T, err api.Errno) T {
		t.Helper()
		if err != api.OK {
			t.Fatalf("%s: the error %d", what, err)
		}
		return result
	}
}

// bigOf returns the number of the library.
func bigOf(a api.Rat) *big.Rat {
	x, ok := new(big.Rat).SetString(string(a))
	if !ok {
		panic("no number: " + string(a))
	}
	return x
}

// ratOf returns the number with a value of the library.
func ratOf(x *big.Rat) api.Rat { return api.Rat(x.RatString()) }

// read returns the expression with a text.
func read(t *testing.T, s string) api.Expr {
	t.Helper()
	e, at, err := equation.Read(s)
	if err != api.OK {
		t.Fatalf("%q cannot be read: the error %d at %d", s, err, at)
	}
	return e
}

// problem returns the problem with some lines between that of its name and that of its end.
func problem(t *testing.T, lines ...string) api.Problem {
	t.Helper()
	p, line, err := equation.ReadProblem("problem a\n" + strings.Join(lines, "\n") + "\nend 1\n")
	if err != api.OK {
		t.Fatalf("%q cannot be read: the error %d in line %d", lines, err, line)
	}
	return p
}

// poly returns the polynomial with a text, in t and the variables with some names.
func poly(t *testing.T, s string, names ...string) api.Poly {
	t.Helper()
	vars := len(names)
	of := must[api.Poly](t, s)
	var make func(e api.Expr) api.Poly
	make = func(e api.Expr) api.Poly {
		switch e.Op {
		case "number":
			return of(exact.Normal([]api.Term{{Factor: e.Value, Powers: slices.Repeat([]int{0}, vars+1)}}, vars))
		case "name":
			powers := slices.Repeat([]int{0}, vars+1)
			powers[1+slices.Index(names, e.Name)] = 1
			return api.Poly{{Factor: "1", Powers: powers}}
		case "+":
			return of(exact.AddPoly(make(e.Args[0]), make(e.Args[1]), vars))
		case "-":
			negative := of(exact.ScalePoly("-1", make(e.Args[len(e.Args)-1]), vars))
			if len(e.Args) == 1 {
				return negative
			}
			return of(exact.AddPoly(make(e.Args[0]), negative, vars))
		case "*":
			return of(exact.MulPoly(make(e.Args[0]), make(e.Args[1]), vars))
		}
		n := must[int](t, s)(exact.Int(e.Value))
		power := make(api.Expr{Op: "number", Value: "1"})
		for range n {
			power = of(exact.MulPoly(power, make(e.Args[0]), vars))
		}
		return power
	}
	return make(read(t, s))
}

// span returns the span with a text: its ends with ".." between them, or its only number.
func span(s string) api.Span {
	low, high, isWide := strings.Cut(s, "..")
	if !isWide {
		high = low
	}
	return api.Span{Low: api.Rat(low), High: api.Rat(high)}
}

// sys returns the system with these lines: the name of a variable, a colon, its rate, a semicolon, its start.
func sys(t *testing.T, lines ...string) api.System {
	t.Helper()
	var s api.System
	var rates []string
	for _, line := range lines {
		name, rest, _ := strings.Cut(line, ": ")
		rate, start, _ := strings.Cut(rest, "; ")
		s.Names = append(s.Names, name)
		s.Start = append(s.Start, span(start))
		rates = append(rates, rate)
	}
	for _, rate := range rates {
		s.Rates = append(s.Rates, poly(t, rate, s.Names...))
	}
	return s
}

// named returns a system with other names.
func named(s api.System, names ...string) api.System {
	s.Names = names
	return s
}

// wide returns a system of as many variables as are wanted, named x1, x2, .., each of which is the rate of the one
// before it, and with exact starts.
func wide(n int) api.System {
	var s api.System
	for i := range n {
		powers := slices.Repeat([]int{0}, n+1)
		powers[1+(i+1)%n] = 1
		s.Names = append(s.Names, "x"+strconv.Itoa(i+1))
		s.Rates = append(s.Rates, api.Poly{{Factor: "1", Powers: powers}})
		s.Start = append(s.Start, span(strconv.Itoa(i)))
	}
	return s
}

// someRat returns a small number.
func someRat(r *rand.Rand) api.Rat {
	return ratOf(big.NewRat(int64(r.Intn(13)-6), int64(1+r.Intn(4))))
}

// somePoly returns a polynomial in t and some variables with small powers and factors.
func somePoly(t *testing.T, r *rand.Rand, vars, terms, most int) api.Poly {
	t.Helper()
	list := make([]api.Term, r.Intn(terms+1))
	for i := range list {
		powers := slices.Repeat([]int{0}, vars+1)
		for range r.Intn(most + 1) {
			powers[r.Intn(vars+1)]++
		}
		list[i] = api.Term{Factor: someRat(r), Powers: powers}
	}
	return must[api.Poly](t, "somePoly")(exact.Normal(list, vars))
}

// someSystem returns a small system with exact starts.
func someSystem(t *testing.T, r *rand.Rand, vars, terms, most int) api.System {
	t.Helper()
	var s api.System
	for i := range vars {
		s.Names = append(s.Names, "x"+strconv.Itoa(i+1))
		s.Rates = append(s.Rates, somePoly(t, r, vars, terms, most))
		s.Start = append(s.Start, span(string(someRat(r))))
	}
	return s
}

func TestCheckSystem(t *testing.T) {
	good := sys(t, "x: x * y + t; 1", "y: -2 * x; 0..1/2")
	with := func(change func(s *api.System)) api.System {
		s := sys(t, "x: x * y + t; 1", "y: -2 * x; 0..1/2")
		change(&s)
		return s
	}
	long := digits("x", 32)
	for _, row := range []struct {
		what string
		s    api.System
		want api.Errno
	}{
		{"a system", good, api.OK}, {"24 variables", wide(24), api.OK}, {"25 variables", wide(25), api.ErrMany}, {"nothing", api.System{}, api.ErrEmpty},
		{"no names", api.System{Rates: good.Rates, Start: good.Start}, api.ErrEmpty},
		{"25 names alone", api.System{Names: wide(25).Names}, api.ErrMany},
		{"no rates", with(func(s *api.System) { s.Rates = nil }), api.ErrShape}, {"too many rates", with(func(s *api.System) { s.Rates = append(s.Rates, nil) }), api.ErrShape},
		{"too few starts", with(func(s *api.System) { s.Start = s.Start[:1] }), api.ErrShape}, {"too many starts", with(func(s *api.System) { s.Start = append(s.Start, span("0")) }), api.ErrShape},
		{"the shape before the names", api.System{Names: []string{""}}, api.ErrShape},
		{"all bytes of names", named(wide(3), "aAzZ09_'#", "'", "#1"), api.OK}, {"a long name", named(good, "x", long), api.OK}, {"too long a name", named(good, "x", long+"x"), api.ErrName},
		{"an empty name", named(good, "x", ""), api.ErrName}, {"a blank", named(good, "x y", "x"), api.ErrName}, {"a dash", named(good, "x", "x-y"), api.ErrName}, {"no letter", named(good, "é", "x"), api.ErrName}, {"a byte", named(good, "x\xff", "x"), api.ErrName},
		{"a 0", named(good, "x", "x\x00"), api.ErrName}, {"twice", named(good, "x", "x"), api.ErrTwice}, {"twice before no name", named(wide(3), "x", "x", ""), api.ErrTwice}, {"no name before twice", named(wide(3), "x", "", "x"), api.ErrName},
		{"a reserved word", named(good, "t", "sin"), api.OK}, {"great and small letters", named(good, "x", "X"), api.OK},
		{"too few powers", with(func(s *api.System) { s.Rates[1] = api.Poly{{Factor: "1", Powers: []int{0, 1}}} }), api.ErrShape},
		{"a factor 0", with(func(s *api.System) { s.Rates[1] = api.Poly{{Factor: "0", Powers: []int{0, 1, 0}}} }), api.ErrZero},
		{"a wrong order", with(func(s *api.System) {
			s.Rates[0] = api.Poly{{Factor: "1", Powers: []int{0, 0, 0}}, {Factor: "1", Powers: []int{0, 0, 1}}}
		}), api.ErrOrder},
		{"the first rate before the second one", with(func(s *api.System) {
			s.Rates[0], s.Rates[1] = api.Poly{{Factor: "x", Powers: []int{0, 0, 0}}}, api.Poly{{}}
		}), api.ErrForm},
		{"no name before a rate", with(func(s *api.System) { s.Names[1], s.Rates[0] = "?", api.Poly{{}} }), api.ErrName},
		{"a rate before a start", with(func(s *api.System) { s.Start[0], s.Rates[1] = api.Span{}, api.Poly{{}} }), api.ErrShape},
		{"no start", with(func(s *api.System) { s.Start[1] = api.Span{} }), api.ErrForm}, {"a start backwards", with(func(s *api.System) { s.Start[1] = span("1..0") }), api.ErrOrder},
		{"the first start before the second one", with(func(s *api.System) { s.Start[0], s.Start[1] = span("1..0"), api.Span{} }), api.ErrOrder},
	} {
		expectError(t, row.what, CheckSystem(row.s), row.want)
	}
}
