package polynomial

import (
	"math/rand"
	"slices"
	"testing"

	"integraph/number"
)

// term returns a term with a whole factor.
func term(factor int, powers ...uint8) Term {
	t := Term{Factor: number.Whole(factor)}
	copy(t.Powers[:], powers)
	return t
}

// some returns a polynomial in t and some variables with small powers and factors.
func some(r *rand.Rand, variables, terms int) Poly {
	sum := Sum{}
	for range terms {
		t := Term{Factor: number.Whole(r.Intn(7) - 3).Over(number.Whole(1 + r.Intn(3)))}
		for i := range variables + 1 {
			t.Powers[i] = uint8(r.Intn(3))
		}
		sum.Add(t)
	}
	return sum.Poly()
}

// same reports a polynomial that is not the wanted one, or not in normal form.
func same(t *testing.T, what string, got, want Poly) {
	t.Helper()
	for i, a := range got {
		if a.Factor.Sign() == 0 || i > 0 && got[i-1].Powers.Compare(a.Powers) >= 0 {
			t.Fatalf("%s: the term %d is 0, or in a wrong place", what, i)
		}
	}
	equal := func(a, b Term) bool { return a.Powers == b.Powers && a.Factor.Compare(b.Factor) == 0 }
	if !slices.EqualFunc(got, want, equal) {
		t.Fatalf("%s: got %v, want %v", what, got, want)
	}
}

// expand returns what Compose visits, by powers that are expanded one after another.
func expand(p Poly, with []Poly) Poly {
	var sum Poly
	for _, t := range p {
		product := Poly{{Factor: t.Factor}}
		for v, q := range with {
			for range t.Powers[v] {
				product = product.Times(q)
			}
		}
		sum = sum.Plus(product)
	}
	return sum
}

func TestCompare(t *testing.T) {
	order := []Powers{{2, 0, 0}, {1, 1, 0}, {1, 0, 1}, {0, 2, 0}, {0, 1, 1}, {0, 0, 2}, {1}, {0, 1}, {0, 0, 1}, {}}
	for i, a := range order {
		for j, b := range order {
			if c := a.Compare(b); (c < 0) != (i < j) || (c == 0) != (i == j) {
				t.Errorf("Compare of %v and %v: %d", a[:3], b[:3], c)
			}
		}
	}
}

func TestCompose(t *testing.T) {
	r := rand.New(rand.NewSource(1))
	for range 400 {
		variables := r.Intn(3)
		p := some(r, variables, r.Intn(5))
		with := make([]Poly, variables+1)
		for v := range with {
			with[v] = some(r, r.Intn(3), r.Intn(5))
		}
		same(t, "Compose", slices.Collect(Compose(p, with)), expand(p, with))
	}
}

// TestComposeCancels has powers of sums that cancel each other, from the first term on.
func TestComposeCancels(t *testing.T) {
	sum := Poly{term(1, 1), term(1, 0, 1), term(1, 0, 0, 1)}
	p := Poly{term(1, 6), term(-1, 0, 3), term(1, 0, 0, 1)} // a^6 - b^3 + c
	with := []Poly{sum, sum.Times(sum), {term(5, 0, 1)}}
	same(t, "what is left", slices.Collect(Compose(p, with)), Poly{term(5, 0, 1)})
	same(t, "nothing is left", slices.Collect(Compose(p[:2], with)), nil)
	same(t, "nothing", slices.Collect(Compose(p, []Poly{nil, nil, nil})), nil)
}

// TestComposeLate visits the first terms of a power that has more terms than a memory.
func TestComposeLate(t *testing.T) {
	var sum Poly
	for v := range len(Powers{}) {
		a := term(1)
		a.Powers[v] = 1
		sum = append(sum, a)
	}
	var found Poly
	for a := range Compose(Poly{term(1, 12)}, []Poly{sum}) {
		found = append(found, a)
		if len(found) == 3 {
			break
		}
	}
	same(t, "the first terms", found, Poly{term(1, 12), term(12, 11, 1), term(12, 11, 0, 1)})
}

func TestProductsStop(t *testing.T) {
	visited := 0
	for range Products(Poly{term(1, 1), term(1)}, Poly{term(1, 1), term(1)}) {
		visited++
		if visited == 3 {
			break
		}
	}
	if visited != 3 {
		t.Errorf("%d products were visited", visited)
	}
}

func TestValues(t *testing.T) {
	p := Poly{term(2, 0, 2), term(-3, 1), term(1)}
	point := []number.Fraction{number.Whole(2), number.Whole(-3)}
	if v := p.Value(point); v.String() != "13" {
		t.Errorf("Value: %s", v)
	}
	box := []number.Span{{Low: number.Whole(-1), High: number.Whole(2)}, {Low: number.Whole(-3), High: number.Whole(1)}}
	if s := p.Extension(box); s.Low.String() != "-5" || s.High.String() != "22" {
		t.Errorf("Extension: %s to %s", s.Low, s.High)
	}
	same(t, "Derivative", p.Derivative(1), Poly{term(4, 0, 1)})
	same(t, "Scaled", p.Scaled(number.Whole(-2)), Poly{term(-4, 0, 2), term(6, 1), term(-2)})
	same(t, "Scaled by 0", p.Scaled(number.Whole(0)), nil)
}
