package polynomial

import (
	"math/rand"
	"testing"

	"integraph/number"
)

func TestStreams(t *testing.T) {
	r := rand.New(rand.NewSource(2))
	for range 400 {
		p, q, u := some(r, 2, 5), some(r, 2, 5), some(r, 2, 3)
		two, half := number.Whole(-2), number.Whole(1).Over(number.Whole(2))
		product := Product(Known(p), Known(q))
		same(t, "a product", product.Poly(), p.Times(q))
		sum := Combination([]number.Fraction{two, half, {}}, []*Stream{product, Known(u), Known(p)})
		want := p.Times(q).Scaled(two).Plus(u.Scaled(half))
		same(t, "a sum", sum.Poly(), want)
		same(t, "a product of sums", Product(sum, product).Poly(), want.Times(p.Times(q)))
		same(t, "a square that is cancelled", Combination([]number.Fraction{half, half.Negative()}, []*Stream{Product(sum, sum), Known(want.Times(want))}).Poly(), nil)
		degree := -1
		if len(want) > 0 {
			degree = want[0].Powers.Degree()
		}
		if got := sum.Degree(); got != degree {
			t.Errorf("Degree of %v: %d", want, got)
		}
	}
	same(t, "the sum of nothing", Combination(nil, nil).Poly(), nil)
	same(t, "a product with 0", Product(Known(nil), Known(Poly{term(1, 1)})).Poly(), nil)
	same(t, "a product of 0", Product(Known(Poly{term(1, 1)}), Known(nil)).Poly(), nil)
}

// TestStreamsAreLate visits the first terms of products that have more terms than a memory, also behind what is
// cancelled, or times 0.
func TestStreamsAreLate(t *testing.T) {
	var sum Poly
	for v := range len(Powers{}) {
		sum = append(sum, Term{Raised(v, 1), number.Whole(1)})
	}
	power := Known(Single(number.Whole(1), Powers{}))
	for range 12 {
		power = Product(power, Known(sum))
	}
	great := Product(power, power)
	one := number.Whole(1)
	list := Combination([]number.Fraction{one, one.Negative(), {}}, []*Stream{great, Known(Single(one, Raised(0, 24))), great})
	var found Poly
	for a := range list.Terms() {
		found = append(found, a)
		if len(found) == 2 {
			break
		}
	}
	same(t, "the first terms", found, Poly{term(24, 23, 1), term(24, 23, 0, 1)})
	if list.Degree() != 24 {
		t.Errorf("Degree: %d", list.Degree())
	}
	same(t, "what is times 0", Combination([]number.Fraction{{}, one}, []*Stream{great, Known(sum)}).Poly(), sum)
}

func TestAlong(t *testing.T) {
	p := Poly{term(1, 1, 2), term(3, 0, 0, 1), term(5)} // t x^2 + 3 y + 5
	rates := []Poly{{term(2, 0, 0, 1)}, {term(-1, 0, 1), term(4)}}
	same(t, "Along", p.Along(rates), Poly{term(4, 1, 1, 1), term(1, 0, 2), term(-3, 0, 1), term(12)})
	same(t, "Along a rate less", p.Along(rates[:1]), Poly{term(4, 1, 1, 1), term(1, 0, 2)})
	same(t, "Along nothing", p.Along(nil), Poly{term(1, 0, 2)})
	same(t, "Along of 0", Poly(nil).Along(rates), nil)
}
