package gear

import (
	"math/big"
	"math/rand"
	"slices"
	"testing"

	"integraph/api"
)

// TestBestIsBest has P5.6 for trains: none of the stock is nearer, an exact one is found, and more wheels or pairs never
// make the best one worse.
func TestBestIsBest(t *testing.T) {
	r := rand.New(rand.NewSource(15))
	better := 0
	for range 300 {
		stock, most := someStock(r, 4), r.Intn(3)
		trains := trainsOf(stock, most+1)
		ratio := someRatio(r, trains)
		train, err := Best(stock, ratio, most)
		expectError(t, "Best", err, api.OK)
		least := bigDistance(train, ratio)
		expectError(t, "CheckTrain of the best train", CheckTrain(stock, train), api.OK)
		if !isNormal(train) || len(train) > most {
			t.Errorf("Best: %v is no train of up to %d pairs", train, most)
		}
		for _, other := range trains {
			if d := bigDistance(other, ratio); len(other) <= most && d.Cmp(least) < 0 {
				t.Errorf("%v is nearer to %s than %v", other, ratio, train)
			}
			if len(other) <= most {
				exact, err := Best(stock, ratOf(bigRatio(other)), most)
				if err != api.OK || bigRatio(exact).Cmp(bigRatio(other)) != 0 {
					t.Errorf("Best for the ratio of %v is %v, with the error %d", other, exact, err)
				}
			}
		}
		more := slices.Clone(stock)
		more[r.Intn(len(more))].Count++
		more = append(more, api.Wheel{Teeth: more[len(more)-1].Teeth + 1 + r.Intn(9), Count: 1})
		for _, other := range []func() ([]api.Pair, api.Errno){
			func() ([]api.Pair, api.Errno) { return Best(more, ratio, most) },
			func() ([]api.Pair, api.Errno) { return Best(stock, ratio, most+1) },
		} {
			train, err := other()
			d := bigDistance(train, ratio)
			if err != api.OK || d.Cmp(least) > 0 {
				t.Errorf("a larger search returns %v, with the error %d", train, err)
			}
			better += max(0, least.Cmp(d))
		}
	}
	if better < 50 {
		t.Errorf("only %d larger searches found nearer trains", better)
	}
}

// TestConvergentsAreBest has P5.6 for fractions.
func TestConvergentsAreBest(t *testing.T) {
	r := rand.New(rand.NewSource(16))
	for range 400 {
		a := someNumber(r, 1+r.Int63n(20000))
		list, err := Convergents(a)
		expectError(t, "Convergents", err, api.OK)
		for i, c := range list {
			want := 2*(i%2) - 1 // below first, then above
			if i == len(list)-1 {
				want = 0
			}
			if bigOf(c).Cmp(bigOf(a)) != want {
				t.Errorf("the convergent %d of %s is %s", i, a, c)
			}
			if i > 0 {
				got, err := Approximate(a, int(bigOf(c).Denom().Int64()))
				expect(t, "Approximate of "+string(a), got, err, c, api.OK)
			}
		}
		most := 1 + r.Intn(60)
		nearest, err := Approximate(a, most)
		expectError(t, "Approximate", err, api.OK)
		for q := int64(1); q <= int64(most); q++ {
			times := new(big.Rat).Mul(bigOf(a), big.NewRat(q, 1))
			p := new(big.Int).Div(times.Num(), times.Denom())
			for range 2 {
				if away(new(big.Rat).SetFrac(p, big.NewInt(q)), a).Cmp(away(bigOf(nearest), a)) < 0 {
					t.Errorf("%v / %d is nearer to %s than %s", p, q, a, nearest)
				}
				p.Add(p, big.NewInt(1))
			}
		}
	}
}

// away returns how far x is from a.
func away(x *big.Rat, a api.Rat) *big.Rat {
	d := new(big.Rat).Sub(x, bigOf(a))
	return d.Abs(d)
}

// TestPlansAreEquipped has P5.6 for plans.
func TestPlansAreEquipped(t *testing.T) {
	r := rand.New(rand.NewSource(17))
	changed := 0
	for range 300 {
		p, stock := somePlan(t, r, 1+r.Intn(6)), someStock(r, 5)
		trains, err := Equip(p, stock, r.Intn(3))
		expectError(t, "Equip", err, api.OK)
		if !isBuilt(stock, trains...) {
			t.Errorf("%v cannot be built from %v", trains, stock)
		}
		q, err := Replace(p, exact(p))
		expectPlan(t, "Replace by exact trains", q, err, p, api.OK)
		q, err = Replace(p, trains)
		expectError(t, "Replace", err, api.OK)
		if !samePlan(p, q) {
			changed++
		}
		same, err := Replace(q, trains)
		expectPlan(t, "Replace of a replaced plan", same, err, q, api.OK)
		factors, err := Factors(q, trains)
		expectList(t, "Factors of a replaced plan", factors, err, slices.Repeat([]api.Rat{"1"}, len(trains)), api.OK)
	}
	if changed < 200 {
		t.Errorf("only %d plans are changed", changed)
	}
}
