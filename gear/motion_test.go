package gear

import (
	"math"
	"math/big"
	"math/rand"
	"testing"

	"integraph/api"
)

func TestCarrier(t *testing.T) {
	nines := digits("9", 600)
	for _, row := range []struct {
		sun, ring int
		x, y      api.Rat
		want      api.Rat
		err       api.Errno
	}{
		{20, 60, "3", "-1", "0", api.OK}, {20, 60, "4", "0", "1", api.OK}, {20, 60, "0", "4", "3", api.OK}, {1, 1, "1/2", "1/3", "5/12", api.OK}, {400, 400, "-7", "-7", "-7", api.OK}, {1, 400, nines, nines, nines, api.OK}, {1, 1, "1/" + nines, "-1/" + nines, "0", api.OK},
		{2, 1, "1/7" + digits("0", 599), "0", "1/105" + digits("0", 598), api.ErrLarge}, {1, 1, nines, "1/2", "", api.ErrLarge},
		{0, 60, "x", "x", "", api.ErrRange}, {20, 0, "x", "x", "", api.ErrRange}, {401, 60, "1", "1", "", api.ErrRange}, {20, 401, "1", "1", "", api.ErrRange}, {-20, 60, "1", "1", "", api.ErrRange}, {20, math.MinInt, "1", "1", "", api.ErrRange}, {math.MaxInt, math.MaxInt, "1", "1", "", api.ErrRange},
		{20, 60, "x", nines + "9", "", api.ErrForm}, {20, 60, nines + "9", "x", "", api.ErrLarge}, {20, 60, "1", "2/4", "", api.ErrForm},
	} {
		if row.err != api.OK {
			row.want = ""
		}
		got, err := Carrier(row.sun, row.ring, row.x, row.y)
		expect(t, "Carrier of "+name(row.sun, row.ring)+" with "+string(row.x)+" and "+string(row.y), got, err, row.want, row.err)
	}
	r := rand.New(rand.NewSource(10))
	for range 1000 {
		sun, ring, x, y := 1+r.Intn(400), 1+r.Intn(400), someNumber(r, 100), someNumber(r, 100)
		got, err := Carrier(sun, ring, x, y)
		expectError(t, "Carrier", err, api.OK)
		// seen from the carrier, the wheels turn against each other, the more the fewer teeth they have
		seen := func(turns api.Rat, teeth int) *big.Rat {
			d := new(big.Rat).Sub(bigOf(turns), bigOf(got))
			return d.Mul(d, big.NewRat(int64(teeth), 1))
		}
		if sum := seen(x, sun); sum.Add(sum, seen(y, ring)).Sign() != 0 {
			t.Errorf("Carrier of %d, %d, %s, %s is %s", sun, ring, x, y, got)
		}
	}
}

func TestLost(t *testing.T) {
	nines := digits("9", 600)
	four := pairs(1, 400, 1, 400, 1, 400, 1, 400)
	for _, row := range []struct {
		what  string
		train []api.Pair
		lost  []api.Rat
		want  api.Rat
		err   api.Errno
	}{
		{"example 5", pairs(20, 50, 20, 30), []api.Rat{"1/100", "1/50"}, "2/75", api.OK}, {"no pairs", nil, nil, "0", api.OK}, {"a pair", pairs(20, 50), []api.Rat{"1/100"}, "1/100", api.OK}, {"nothing lost", four, []api.Rat{"0", "0", "0", "0"}, "0", api.OK}, {"the first one", four, []api.Rat{"1", "0", "0", "0"}, "1/64000000", api.OK}, {"the last one", four, []api.Rat{"0", "0", "0", nines}, nines, api.OK},
		{"five pairs", make([]api.Pair, 5), nil, "", api.ErrMany}, {"a driven 0", pairs(20, 0), nil, "", api.ErrRange}, {"too few numbers", pairs(20, 50, 20, 30), []api.Rat{"x"}, "", api.ErrShape}, {"too many numbers", nil, []api.Rat{"x"}, "", api.ErrShape},
		{"a form in front of a range", pairs(20, 50, 20, 30), []api.Rat{"x", "-1"}, "", api.ErrForm}, {"a range in front of a form", pairs(20, 50, 20, 30), []api.Rat{"-1", "x"}, "", api.ErrRange}, {"a number with 601 digits", pairs(20, 50), []api.Rat{nines + "9"}, "", api.ErrLarge}, {"a size in front of a range", pairs(20, 50, 20, 30), []api.Rat{"-" + nines + "9", "-1"}, "", api.ErrLarge}, {"-1/2", pairs(20, 50), []api.Rat{"-1/2"}, "", api.ErrRange}, {"a range in front of a sum that is too large", pairs(20, 50, 50, 20, 50, 20), []api.Rat{nines, nines, "-1"}, "", api.ErrRange},
		{"a sum that is too large", pairs(20, 50, 50, 20), []api.Rat{nines, "0"}, "", api.ErrLarge}, {"a denominator that is too large", pairs(20, 50, 20, 50), []api.Rat{"1/" + nines, "0"}, "", api.ErrLarge},
	} {
		got, err := Lost(row.train, row.lost)
		expect(t, "Lost: "+row.what, got, err, row.want, row.err)
	}
	r := rand.New(rand.NewSource(11))
	for range 1000 {
		train := someTrain(r)
		var lost []api.Rat
		behind := new(big.Rat) // carried from wheel to wheel
		for _, p := range train {
			lost = append(lost, someRat(r, 20))
			behind.Mul(behind, big.NewRat(int64(p.Driver), int64(p.Driven))).Add(behind, bigOf(lost[len(lost)-1]))
		}
		got, err := Lost(train, lost)
		expect(t, "Lost", got, err, ratOf(behind), api.OK)
	}
}
