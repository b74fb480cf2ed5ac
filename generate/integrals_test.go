package generate

import (
	"math"
	"math/big"
	"math/rand"
	"slices"
	"strconv"
	"testing"

	"integraph/api"
	"integraph/exact"
)

// The tests of this file are those of P3.4.

func TestIsIntegral(t *testing.T) {
	s := sys(t, "x: y; 0..1", "y: -x; 1", "z: 1; 0")
	for _, row := range []struct {
		p    string
		want bool
	}{{"0", true}, {"7", true}, {"x", false}, {"t", false}, {"x^2 + y^2", true}, {"x^2 - y^2", false}, {"z - t", true}, {"z + t", false}, {"(x^2 + y^2) * (z - t)^3 - 1/3", true}, {"x^2 + y^2 + z", false}, {"(x^2 + y^2)^6", true}, {"y^12", false}} {
		got, err := IsIntegral(s, poly(t, row.p, "x", "y", "z"))
		if got != row.want || err != api.OK {
			t.Errorf("IsIntegral of %s: got %v and the error %d", row.p, got, err)
		}
	}
	for _, row := range []struct {
		s    api.System
		p    api.Poly
		want api.Errno
	}{{api.System{}, api.Poly{{}}, api.ErrEmpty}, {s, api.Poly{{}}, api.ErrShape}, {s, make(api.Poly, 65), api.ErrMany}} {
		got, err := IsIntegral(row.s, row.p)
		if got || err != row.want {
			t.Errorf("IsIntegral: got %v and the error %d, want %d", got, err, row.want)
		}
	}
}

// TestIsIntegralOnTheWay has derivatives that cancel, beyond the powers, the terms and the digits of a polynomial.
func TestIsIntegralOnTheWay(t *testing.T) {
	nines := digits("9", 600)
	s := sys(t, "x: "+nines+" * y^11 * (1 + x); 0", "y: -"+nines+" * x^11 * (1 + x); 0")
	got, err := IsIntegral(s, poly(t, "x^12 + y^12", "x", "y"))
	if !got || err != api.OK {
		t.Errorf("x^12 + y^12: got %v and the error %d", got, err)
	}
	got, err = IsIntegral(s, poly(t, "x^12 + y^12 + y", "x", "y"))
	if got || err != api.OK {
		t.Errorf("x^12 + y^12 + y: got %v and the error %d", got, err)
	}
}

func TestIntegrals(t *testing.T) {
	for _, row := range []struct {
		s      []string
		degree int
		want   []string
	}{
		{[]string{"x: x * y; 1", "y: -x * y; 1"}, 2, []string{"x^2 + 2 * x * y + y^2", "x + y"}}, {[]string{"x: x * y; 1", "y: -x * y; 1"}, 1, []string{"x + y"}},
		{[]string{"x: y; 1", "y: -x; 0..1"}, 1, nil}, {[]string{"x: y; 1", "y: -x; 0..1"}, 2, []string{"x^2 + y^2"}}, {[]string{"x: y; 1", "y: -x; 0..1"}, 3, []string{"x^2 + y^2"}}, {[]string{"x: y; 1", "y: -x; 1"}, 4, []string{"x^4 + 2 * x^2 * y^2 + y^4", "x^2 + y^2"}},
		{[]string{"x: 0; 1"}, 12, []string{"x^12", "x^11", "x^10", "x^9", "x^8", "x^7", "x^6", "x^5", "x^4", "x^3", "x^2", "x"}}, {[]string{"x: 1; 1"}, 12, nil}, {[]string{"x: x; 1"}, 12, nil},
		{[]string{"x: t; 1", "y: 3 * t; 1"}, 1, []string{"x - 1/3 * y"}}, {[]string{"x: t; 1", "y: t^2; 1"}, 3, nil}, {[]string{"x: t * y; 1", "y: -t * x; 1"}, 2, []string{"x^2 + y^2"}},
		{[]string{"x: 2; 1", "y: 3; 1", "z: 5; 1"}, 1, []string{"x - 2/5 * z", "y - 3/5 * z"}},
		{[]string{"x: x; 1", "y: -y; 1", "z: 2 * z; 1"}, 3, []string{"y^2 * z", "x * y"}},
		{[]string{"x: y; 1", "y: -x; 1", "z: x; 0"}, 2, []string{"x^2 - 2 * y * z - z^2", "y^2 + 2 * y * z + z^2", "y + z"}},
		// rates that are not 0, and a product of powers whose first power is not that of the first variable
		{[]string{"x: x; 1", "y: -2 * y; 1", "z: 0; 1"}, 3, []string{"x^2 * y", "z^3", "z^2", "z"}},
	} {
		s := sys(t, row.s...)
		var want []api.Poly
		for _, p := range row.want {
			want = append(want, poly(t, p, s.Names...))
		}
		got, err := Integrals(s, row.degree)
		expectPolys(t, "Integrals of "+row.s[0]+" up to "+strconv.Itoa(row.degree), got, err, want, api.OK)
	}
}

// compareTerms returns a number below 0 if a comes before b.
func compareTerms(a, b api.Term) int {
	sum := func(powers []int) int {
		sum := 0
		for _, power := range powers {
			sum += power
		}
		return sum
	}
	if difference := sum(b.Powers) - sum(a.Powers); difference != 0 {
		return difference
	}
	return slices.Compare(b.Powers, a.Powers)
}

func TestIntegralsErrors(t *testing.T) {
	fast := sys(t, "x: "+digits("7", 400)+"; 0", "y: 1"+digits("0", 399)+"; 0")
	for _, row := range []struct {
		what   string
		s      api.System
		degree int
		want   api.Errno
	}{
		{"degree 0", wide(1), 0, api.ErrRange}, {"degree 13", wide(1), 13, api.ErrRange}, {"degree -1", wide(24), -1, api.ErrRange}, {"the greatest degree", wide(2), math.MaxInt, api.ErrRange}, {"the least degree", wide(2), math.MinInt, api.ErrRange},
		{"no system", api.System{}, 0, api.ErrEmpty}, {"the range before the limit", wide(24), 13, api.ErrRange},
		{"12 products", wide(1), 12, api.OK}, {"54 products of 2", wide(2), 9, api.OK}, {"65 products of 2", wide(2), 10, api.ErrLimit}, {"55 products of 3", wide(3), 5, api.OK}, {"83 products of 3", wide(3), 6, api.ErrLimit},
		{"24 products", wide(24), 1, api.OK}, {"54 products of 9", wide(9), 2, api.OK}, {"65 products of 10", wide(10), 2, api.ErrLimit}, {"very many products", wide(24), 12, api.ErrLimit},
		{"400 digits", fast, 1, api.OK}, {"800 digits", fast, 2, api.ErrLarge},
	} {
		got, err := Integrals(row.s, row.degree)
		if err != row.want || err != api.OK && got != nil {
			t.Errorf("Integrals: %s: got %v and the error %d, want %d", row.what, got, err, row.want)
		}
	}
}

// rank returns the rank of rows of factors, each by a text.
func rank(rows []map[string]*big.Rat) int {
	rank := 0
	for len(rows) > 0 {
		row := rows[0]
		rows = rows[1:]
		pivot := ""
		for key, x := range row {
			if x.Sign() != 0 {
				pivot = key
			}
		}
		if pivot == "" {
			continue
		}
		rank++
		for _, other := range rows {
			if other[pivot] == nil || other[pivot].Sign() == 0 {
				continue
			}
			factor := new(big.Rat).Quo(other[pivot], row[pivot])
			for key, x := range row {
				if other[key] == nil {
					other[key] = new(big.Rat)
				}
				other[key] = new(big.Rat).Sub(other[key], new(big.Rat).Mul(factor, x))
			}
		}
	}
	return rank
}

// TestIntegralsAreABasis checks the form of the basis, that it consists of first integrals, and that there are as many
// as there are products of powers, less the rank of their derivatives.
func TestIntegralsAreABasis(t *testing.T) {
	r := rand.New(rand.NewSource(4))
	found := 0
	for range 150 {
		vars := 1 + r.Intn(3)
		s := someSystem(t, r, vars, 2, 2)
		for i := range s.Rates { // relations between the rates make integrals
			if i > 0 && r.Intn(2) == 0 {
				s.Rates[i] = must[api.Poly](t, "ScalePoly")(exact.ScalePoly(someRat(r), s.Rates[r.Intn(i)], vars))
			}
		}
		degree := 1 + r.Intn(3)
		basis := must[[]api.Poly](t, "Integrals")(Integrals(s, degree))
		found += len(basis)
		var rows []map[string]*big.Rat
		for powers := range monomials(1, vars, 1, degree) {
			term := api.Term{Factor: "1", Powers: make([]int, vars+1)}
			for v := range term.Powers {
				term.Powers[v] = int(powers[v])
			}
			row := map[string]*big.Rat{}
			for _, u := range derivativeBy(t, s, api.Poly{term}) {
				row[textOf(api.Poly{{Factor: "1", Powers: u.Powers}})] = bigOf(u.Factor)
			}
			rows = append(rows, row)
		}
		if want := len(rows) - rank(rows); len(basis) != want {
			t.Errorf("%d integrals up to %d of %v, not %d", len(basis), degree, s, want)
		}
		expectEchelon(t, s, basis, degree)
	}
	if found < 100 {
		t.Errorf("only %d integrals", found)
	}
}

// expectEchelon reports what is wrong with the form of a basis of integrals.
func expectEchelon(t *testing.T, s api.System, basis []api.Poly, degree int) {
	t.Helper()
	for i, p := range basis {
		if is, err := IsIntegral(s, p); !is || err != api.OK {
			t.Errorf("%v is no integral of %v", p, s)
		}
		if len(p) == 0 || p[0].Factor != "1" || i > 0 && compareTerms(basis[i-1][0], p[0]) >= 0 {
			t.Errorf("the first term of the polynomial %d of %v", i, basis)
			continue
		}
		for j, q := range basis {
			if j != i && slices.ContainsFunc(q, func(u api.Term) bool { return slices.Equal(u.Powers, p[0].Powers) }) {
				t.Errorf("the first term of %d occurs in %d: %v", i, j, basis)
			}
		}
		for _, u := range p {
			sum := 0
			for _, power := range u.Powers {
				sum += power
			}
			if sum < 1 || sum > degree || u.Powers[0] != 0 {
				t.Errorf("a term %v in an integral", u)
			}
		}
	}
}
