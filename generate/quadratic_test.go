package generate

import (
	"math/rand"
	"testing"

	"integraph/api"
)

// The tests of this file are those of P3.6.

// polys returns the polynomials with some texts.
func polys(t *testing.T, list []string, names []string) []api.Poly {
	t.Helper()
	var result []api.Poly
	for _, text := range list {
		result = append(result, poly(t, text, names...))
	}
	return result
}

func TestDegree(t *testing.T) {
	for _, row := range []struct {
		s    []string
		want int
	}{{[]string{"x: 0; 1"}, 0}, {[]string{"x: 7; 1"}, 0}, {[]string{"x: t; 1"}, 1}, {[]string{"x: 3; 1", "y: t * x^2 + y^2; 1"}, 3}, {[]string{"x: x^12; 1", "y: t; 1"}, 12}, {[]string{"x: t^4 + x; 1"}, 4}} {
		got, err := Degree(sys(t, row.s...))
		if got != row.want || err != api.OK {
			t.Errorf("Degree of %v: got %d and the error %d", row.s, got, err)
		}
	}
	if got, err := Degree(api.System{}); got != 0 || err != api.ErrEmpty {
		t.Errorf("Degree of nothing: got %d and the error %d", got, err)
	}
}

func TestCheckQuadratic(t *testing.T) {
	for _, row := range []struct {
		s         []string
		monomials []string
		want      api.Errno
	}{
		{[]string{"x: x^3; 1"}, []string{"x^2"}, api.OK}, {[]string{"x: x^3; 1"}, nil, api.ErrProof}, {[]string{"x: x^3; 1"}, []string{"x^3"}, api.ErrProof}, {[]string{"x: x^3; 1"}, []string{"x^3", "x^2"}, api.OK}, {[]string{"x: x^3; 1"}, []string{"x^2", "t^2"}, api.OK},
		{[]string{"x: x^2 + t * x - 3; 1"}, nil, api.OK}, {[]string{"x: 0; 1"}, nil, api.OK}, {[]string{"x: x^2; 1"}, []string{"x^2"}, api.OK}, {[]string{"x: x^2 + t; 1"}, []string{"x^5"}, api.ErrProof}, {[]string{"x: t^3; 1"}, []string{"t^2"}, api.OK}, {[]string{"x: t^4; 1"}, []string{"t^2"}, api.OK}, {[]string{"x: t^5; 1"}, []string{"t^2"}, api.ErrProof}, {[]string{"x: t^5; 1"}, []string{"t^2", "t^3"}, api.OK},
		{[]string{"x: x^7; 1"}, []string{"x^6"}, api.OK}, {[]string{"x: x^12; 1"}, []string{"x^11"}, api.OK}, {[]string{"x: x^12; 1"}, []string{"x^12"}, api.ErrProof}, {[]string{"x: x * y^2; 1", "y: 1; 0"}, []string{"y^2"}, api.OK}, {[]string{"x: x * y^2; 1", "y: 1; 0"}, []string{"x * y"}, api.ErrProof},
		// terms that cancel in a derivative do not matter
		{[]string{"x: y * x^2; 1", "y: -x * y^2; 1"}, []string{"x * y"}, api.OK},
	} {
		s := sys(t, row.s...)
		expectError(t, "CheckQuadratic of "+row.s[0], CheckQuadratic(s, polys(t, row.monomials, s.Names)), row.want)
	}
}

func TestCheckQuadraticErrors(t *testing.T) {
	s := sys(t, "x: x^3; 1", "y: y; 1")
	x2, y2 := poly(t, "x^2", "x", "y"), poly(t, "y^2", "x", "y")
	eight := polys(t, []string{"x^2", "x^3", "x^4", "x^5", "x^6", "x^7", "x^8", "x^9"}, s.Names)
	others := polys(t, []string{"y^2", "y^3", "y^4", "y^5", "y^6", "y^7", "y^8", "y^9"}, s.Names)
	for _, row := range []struct {
		what string
		s    api.System
		list []api.Poly
		want api.Errno
	}{
		{"no system", api.System{}, make([]api.Poly, 9), api.ErrEmpty}, {"9 monomials", s, make([]api.Poly, 9), api.ErrMany}, {"8 monomials", s, eight, api.OK}, {"8 other monomials", s, others, api.ErrProof},
		{"no term", s, []api.Poly{x2, nil}, api.ErrForm}, {"two terms", s, []api.Poly{poly(t, "x^2 + y^2", "x", "y")}, api.ErrForm}, {"a factor", s, []api.Poly{poly(t, "2 * x^2", "x", "y")}, api.ErrForm}, {"a negative factor", s, []api.Poly{poly(t, "-x^2", "x", "y")}, api.ErrForm}, {"a power 1", s, []api.Poly{poly(t, "x", "x", "y")}, api.ErrForm}, {"a power 0", s, []api.Poly{poly(t, "1", "x", "y")}, api.ErrForm},
		{"twice", s, []api.Poly{x2, y2, x2}, api.ErrTwice}, {"an error of a polynomial", s, []api.Poly{x2, {{Factor: "1", Powers: []int{2}}}}, api.ErrShape}, {"a factor 0", s, []api.Poly{{{Factor: "0", Powers: []int{0, 2, 0}}}}, api.ErrZero},
		{"the first with an error", s, []api.Poly{x2, x2, nil}, api.ErrTwice}, {"the form before twice", s, []api.Poly{nil, nil}, api.ErrForm}, {"an error before the proof", s, []api.Poly{y2, nil}, api.ErrForm}, {"a proof", s, []api.Poly{x2, y2}, api.OK},
	} {
		expectError(t, "CheckQuadratic: "+row.what, CheckQuadratic(row.s, row.list), row.want)
	}
}

func TestQuadratic(t *testing.T) {
	for _, row := range []struct {
		s    []string
		want []string
		err  api.Errno
	}{
		{[]string{"x: x^3; 1"}, []string{"x^2"}, api.OK}, {[]string{"x: x^2 + t; 1"}, nil, api.OK}, {[]string{"x: 0; 1"}, nil, api.OK}, {[]string{"x: x^4; 1"}, []string{"x^3"}, api.OK}, {[]string{"x: t^3; 1"}, []string{"t^3"}, api.OK}, {[]string{"x: t * x^2; 1"}, []string{"t * x"}, api.OK},
		{[]string{"x: x^3 + y^3; 1", "y: 1; 1"}, []string{"y^3", "x^2"}, api.OK},
		{[]string{"x: y^3; 1", "y: x^3; 1"}, []string{"x^2", "x * y", "y^2"}, api.OK}, {[]string{"x: y^3; 1", "y: z^3; 1", "z: x^3; 1"}, nil, api.ErrNone}, {[]string{"x: x^7; 1"}, []string{"x^6"}, api.OK}, {[]string{"x: x^8; 1"}, nil, api.ErrLimit},
	} {
		s := sys(t, row.s...)
		got, err := Quadratic(s)
		want := polys(t, row.want, s.Names)
		if row.err != api.OK {
			want = nil
		}
		expectPolys(t, "Quadratic of "+row.s[0], got, err, want, row.err)
	}
	for _, row := range []struct {
		what string
		s    api.System
		want api.Errno
	}{{"no system", api.System{}, api.ErrEmpty}, {"24 variables, degree 1", wide(24), api.OK}} {
		got, err := Quadratic(row.s)
		expectPolys(t, "Quadratic: "+row.what, got, err, nil, row.want)
	}
	for n := 6; n <= 9; n++ { // 28, 36, 45 and 55 monomials of degree 2
		s := wide(n)
		s.Rates[0] = must[api.Poly](t, "a square")(api.Poly{{Factor: "1", Powers: append([]int{2}, make([]int, n)...)}}, api.OK)
		got, err := Quadratic(s)
		expectPolys(t, "Quadratic of degree 2", got, err, nil, map[bool]api.Errno{true: api.OK, false: api.ErrLimit}[n < 8])
	}
}

// TestQuadraticIsLeast tries all lists of up to 3 of the monomials in question with CheckQuadratic.
func TestQuadraticIsLeast(t *testing.T) {
	r := rand.New(rand.NewSource(6))
	sizes := map[int]int{}
	for range 60 {
		vars := 1 + r.Intn(2)
		s := someSystem(t, r, vars, 3, 2+vars)
		degree := must[int](t, "Degree")(Degree(s))
		var questions []api.Poly
		for powers := range monomials(0, vars, 2, degree) {
			term := api.Term{Factor: "1", Powers: make([]int, vars+1)}
			for v := range term.Powers {
				term.Powers[v] = int(powers[v])
			}
			questions = append(questions, api.Poly{term})
		}
		var want []api.Poly
		found := CheckQuadratic(s, nil) == api.OK
		for i := 0; i < len(questions) && !found; i++ {
			want = questions[i : i+1]
			found = CheckQuadratic(s, want) == api.OK
		}
		for i := 0; i < len(questions) && !found; i++ {
			for j := i + 1; j < len(questions) && !found; j++ {
				want = []api.Poly{questions[i], questions[j]}
				found = CheckQuadratic(s, want) == api.OK
			}
		}
		for i := 0; i < len(questions) && !found; i++ {
			for j := i + 1; j < len(questions) && !found; j++ {
				for k := j + 1; k < len(questions) && !found; k++ {
					want = []api.Poly{questions[i], questions[j], questions[k]}
					found = CheckQuadratic(s, want) == api.OK
				}
			}
		}
		got, err := Quadratic(s)
		if !found {
			expectPolys(t, "Quadratic", got, err, nil, api.ErrNone)
			sizes[4]++
			continue
		}
		sizes[len(want)]++
		expectPolys(t, "Quadratic", got, err, want, api.OK)
	}
	for size := range 5 {
		if sizes[size] == 0 {
			t.Errorf("no system needs %d monomials: %v", size, sizes)
		}
	}
}

// TestMonomials visits monomials in the order of terms.
func TestMonomials(t *testing.T) {
	var got []api.Term
	for powers := range monomials(0, 2, 1, 3) {
		got = append(got, api.Term{Powers: []int{int(powers[0]), int(powers[1]), int(powers[2])}})
		if len(got) > 1 && compareTerms(got[len(got)-2], got[len(got)-1]) >= 0 {
			t.Errorf("the monomial %v is in a wrong place", got[len(got)-1])
		}
	}
	if len(got) != 19 {
		t.Errorf("%d monomials", len(got))
	}
	for powers := range monomials(1, 2, 2, 2) {
		if powers[0] != 0 || powers.Degree() != 2 {
			t.Errorf("the monomial %v", powers)
		}
		break
	}
}
