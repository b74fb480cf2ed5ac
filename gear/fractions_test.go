package gear

import (
	"math/big"
	"math/rand"
	"slices"
	"testing"

	"integraph/api"
)

// golden returns the quotient of two successive Fibonacci numbers: its expansion has n ones, and a two.
func golden(n int) api.Rat {
	a, b := big.NewInt(2), big.NewInt(1)
	for range n {
		a, b = new(big.Int).Add(a, b), a
	}
	return ratOf(new(big.Rat).SetFrac(a, b))
}

func TestExpansion(t *testing.T) {
	for _, row := range []struct {
		a    api.Rat
		want []api.Rat
		err  api.Errno
	}{
		{"43/30", []api.Rat{"1", "2", "3", "4"}, api.OK}, {"0", []api.Rat{"0"}, api.OK}, {"7", []api.Rat{"7"}, api.OK}, {"-7", []api.Rat{"-7"}, api.OK}, {"1/2", []api.Rat{"0", "2"}, api.OK}, {"-1/2", []api.Rat{"-1", "2"}, api.OK}, {"-7/3", []api.Rat{"-3", "1", "2"}, api.OK},
		{digits("9", 600) + "/2", []api.Rat{"4" + digits("9", 599), "2"}, api.OK}, {"-1/" + digits("9", 600), []api.Rat{"-1", "1", digits("9", 599) + "8"}, api.OK},
		{"", nil, api.ErrForm}, {"2/4", nil, api.ErrForm}, {digits("1", 601), nil, api.ErrLarge}, {golden(255), slices.Concat(slices.Repeat([]api.Rat{"1"}, 255), []api.Rat{"2"}), api.OK}, {golden(256), nil, api.ErrMany},
	} {
		got, err := Expansion(row.a)
		expectList(t, "Expansion of "+string(row.a), got, err, row.want, row.err)
	}
}

func TestConvergents(t *testing.T) {
	for _, row := range []struct {
		a    api.Rat
		want []api.Rat
		err  api.Errno
	}{
		{"43/30", []api.Rat{"1", "3/2", "10/7", "43/30"}, api.OK}, {"0", []api.Rat{"0"}, api.OK}, {"-7/3", []api.Rat{"-3", "-2", "-7/3"}, api.OK}, {"1/3", []api.Rat{"0", "1/3"}, api.OK}, {"-1/" + digits("9", 600), []api.Rat{"-1", "0", "-1/" + digits("9", 600)}, api.OK},
		{"x", nil, api.ErrForm}, {"1/" + digits("1", 601), nil, api.ErrLarge}, {golden(256), nil, api.ErrMany},
	} {
		got, err := Convergents(row.a)
		expectList(t, "Convergents of "+string(row.a), got, err, row.want, row.err)
	}
	got, err := Convergents(golden(255))
	if err != api.OK || len(got) != 256 || got[255] != golden(255) {
		t.Errorf("Convergents: %v, and the error %d", got, err)
	}
}

// someNumber returns a number of any sign.
func someNumber(r *rand.Rand, most int64) api.Rat {
	return ratOf(big.NewRat(r.Int63n(2*most)-most, 1+r.Int63n(most)))
}

// TestExpansions puts convergents together from expansions, from the last number on.
func TestExpansions(t *testing.T) {
	r := rand.New(rand.NewSource(6))
	for _, most := range []int64{10, 1000, 1e18} {
		for range 300 {
			a := someNumber(r, most)
			parts, err := Expansion(a)
			expectError(t, "Expansion", err, api.OK)
			var want []api.Rat
			for i, part := range parts {
				if !bigOf(part).IsInt() || i > 0 && bigOf(part).Sign() <= 0 {
					t.Errorf("the expansion of %s has %s", a, part)
				}
				value := bigOf(part)
				for _, before := range slices.Backward(parts[:i]) {
					value.Add(bigOf(before), value.Inv(value))
				}
				want = append(want, ratOf(value))
			}
			if last := len(parts) - 1; want[last] != a || last > 0 && parts[last] == "1" {
				t.Errorf("the expansion of %s is %v", a, parts)
			}
			got, err := Convergents(a)
			expectList(t, "Convergents of "+string(a), got, err, want, api.OK)
		}
	}
}

// neighboursOf returns the neighbours of a number, found among all denominators.
func neighboursOf(a *big.Rat, most int) (low, high *big.Rat) {
	for q := int64(1); q <= int64(most); q++ {
		times := new(big.Rat).Mul(a, big.NewRat(q, 1))
		p := new(big.Int).Div(times.Num(), times.Denom()) // rounded down, since the denominator is above 0
		below := new(big.Rat).SetFrac(p, big.NewInt(q))
		above := new(big.Rat).Set(below)
		if below.Cmp(a) < 0 {
			above.Add(above, big.NewRat(1, q))
		}
		if low == nil || low.Cmp(below) < 0 {
			low = below
		}
		if high == nil || high.Cmp(above) > 0 {
			high = above
		}
	}
	return low, high
}

func TestNeighbours(t *testing.T) {
	nines := digits("9", 600)
	for _, row := range []struct {
		a         api.Rat
		most      int
		low, high api.Rat
		err       api.Errno
	}{
		{"43/30", 20, "10/7", "23/16", api.OK}, {"43/30", 30, "43/30", "43/30", api.OK}, {"43/30", 29, "10/7", "33/23", api.OK}, {"43/30", 1, "1", "2", api.OK}, {"-43/30", 20, "-23/16", "-10/7", api.OK}, {"5", 1, "5", "5", api.OK}, {"0", 999999999, "0", "0", api.OK},
		{"1/" + nines, 999999999, "0", "1/999999999", api.OK}, {"-1/" + nines, 7, "-1/7", "0", api.OK}, {nines, 1, nines, nines, api.OK}, {"-" + nines + "/2", 1, "-5" + digits("0", 599), "-4" + digits("9", 599), api.OK},
		{"x", 0, "", "", api.ErrForm}, {"-" + nines + "9", 0, "", "", api.ErrLarge}, {"1", 0, "", "", api.ErrRange}, {"1", -1, "", "", api.ErrRange}, {"1", 1000000000, "", "", api.ErrRange},
	} {
		got, err := Neighbours(row.a, row.most)
		expect(t, "Neighbours of "+string(row.a)+" up to "+name(row.most), got, err, api.Span{Low: row.low, High: row.high}, row.err)
	}
}

// TestAllNeighbours compares neighbours, and the nearer ones, with those found among all denominators.
func TestAllNeighbours(t *testing.T) {
	r := rand.New(rand.NewSource(7))
	ties := 0
	for range 3000 {
		a, most := someNumber(r, 1+r.Int63n(300)), 1+r.Intn(40)
		if r.Intn(3) == 0 { // the middle of two neighbours
			low, high := neighboursOf(bigOf(a), most)
			a = ratOf(low.Mul(low.Add(low, high), big.NewRat(1, 2)))
		}
		low, high := neighboursOf(bigOf(a), most)
		got, err := Neighbours(a, most)
		expect(t, "Neighbours of "+string(a), got, err, api.Span{Low: ratOf(low), High: ratOf(high)}, api.OK)
		nearer := ratOf(low)
		below, above := new(big.Rat).Sub(bigOf(a), low), new(big.Rat).Sub(high, bigOf(a))
		order := above.Cmp(below)
		if order == 0 {
			ties++
			order = high.Denom().Cmp(low.Denom())
		}
		if order < 0 {
			nearer = ratOf(high)
		}
		one, err := Approximate(a, most)
		expect(t, "Approximate of "+string(a), one, err, nearer, api.OK)
	}
	if ties < 500 {
		t.Errorf("only %d numbers are in the middle", ties)
	}
}

// TestLongNeighbours has numbers and denominators that are too great for a search among all.
func TestLongNeighbours(t *testing.T) {
	r := rand.New(rand.NewSource(8))
	for range 300 {
		numerator, denominator := new(big.Int).Rand(r, new(big.Int).Exp(big.NewInt(10), big.NewInt(600), nil)), new(big.Int).Rand(r, new(big.Int).Exp(big.NewInt(10), big.NewInt(590), nil))
		a := ratOf(new(big.Rat).SetFrac(numerator, denominator.Add(denominator, big.NewInt(1))))
		most := 1 + r.Intn(999999999)
		got, err := Neighbours(a, most)
		expectError(t, "Neighbours", err, api.OK)
		low, high := bigOf(got.Low), bigOf(got.High)
		if low.Cmp(bigOf(a)) >= 0 || high.Cmp(bigOf(a)) <= 0 {
			t.Fatalf("%s is not between %v", a, got)
		}
		gap := new(big.Rat).Sub(high, low)
		sum := new(big.Int).Add(low.Denom(), high.Denom())
		if gap.Num().Cmp(big.NewInt(1)) != 0 || gap.Denom().Cmp(new(big.Int).Mul(low.Denom(), high.Denom())) != 0 || sum.Cmp(big.NewInt(int64(most))) <= 0 {
			t.Fatalf("the neighbours of %s up to %d are not %v", a, most, got)
		}
		if low.Denom().Cmp(big.NewInt(int64(most))) > 0 || high.Denom().Cmp(big.NewInt(int64(most))) > 0 {
			t.Fatalf("the neighbours %v have denominators above %d", got, most)
		}
		expectError(t, "CheckNeighbours", CheckNeighbours(a, most, got), api.OK)
	}
}

func TestCheckNeighbours(t *testing.T) {
	for _, row := range []struct {
		a         api.Rat
		most      int
		low, high api.Rat
		want      api.Errno
	}{
		{"43/30", 20, "10/7", "23/16", api.OK}, {"43/30", 30, "43/30", "43/30", api.OK}, {"43/30", 23, "10/7", "23/16", api.ErrProof}, {"43/30", 20, "43/30", "43/30", api.ErrProof}, {"43/30", 15, "10/7", "23/16", api.ErrProof}, {"43/30", 22, "10/7", "23/16", api.OK},
		{"43/30", 20, "10/7", "13/9", api.ErrProof}, {"43/30", 20, "7/5", "23/16", api.ErrProof}, {"43/30", 20, "23/16", "23/16", api.ErrProof}, {"43/30", 20, "10/7", "10/7", api.ErrProof}, {"43/30", 30, "10/7", "33/23", api.ErrProof},
		{"x", 0, "x", "x", api.ErrForm}, {digits("9", 601), 0, "x", "x", api.ErrLarge}, {"43/30", 0, "x", "x", api.ErrRange}, {"43/30", 1000000000, "x", "x", api.ErrRange},
		{"43/30", 20, "x", digits("9", 601), api.ErrForm}, {"43/30", 20, digits("9", 601), "x", api.ErrLarge}, {"43/30", 20, "10/7", "46/32", api.ErrForm}, {"43/30", 20, "23/16", "10/7", api.ErrOrder},
	} {
		expectError(t, "CheckNeighbours of "+string(row.a)+" up to "+name(row.most)+": "+string(row.low)+" and "+string(row.high), CheckNeighbours(row.a, row.most, api.Span{Low: row.low, High: row.high}), row.want)
	}
	r := rand.New(rand.NewSource(9))
	for range 2000 {
		a, most := someNumber(r, 50), 1+r.Intn(20)
		low, high := neighboursOf(bigOf(a), most)
		s := api.Span{Low: ratOf(low), High: ratOf(high)}
		expectError(t, "CheckNeighbours", CheckNeighbours(a, most, s), api.OK)
		other, otherMost := someNumber(r, 50), 1+r.Intn(20)
		want := api.OK
		if low, high := neighboursOf(bigOf(other), otherMost); ratOf(low) != s.Low || ratOf(high) != s.High {
			want = api.ErrProof
		}
		expectError(t, "CheckNeighbours of others", CheckNeighbours(other, otherMost, s), want)
	}
}

func TestApproximate(t *testing.T) {
	for _, row := range []struct {
		a    api.Rat
		most int
		want api.Rat
		err  api.Errno
	}{
		{"43/30", 20, "23/16", api.OK}, {"43/30", 30, "43/30", api.OK}, {"1/2", 1, "0", api.OK}, {"-1/2", 1, "-1", api.OK}, {"1/4", 2, "0", api.OK}, {"3/4", 2, "1", api.OK}, {"5/12", 3, "1/2", api.OK}, {"1/" + digits("9", 600), 999999999, "0", api.OK}, {"-" + digits("9", 600), 1, "-" + digits("9", 600), api.OK},
		{"1/0", 0, "", api.ErrForm}, {digits("9", 601), 0, "", api.ErrLarge}, {"1/2", 0, "", api.ErrRange}, {"1/2", 1000000000, "", api.ErrRange}, {"22/7", -6, "", api.ErrRange},
	} {
		got, err := Approximate(row.a, row.most)
		expect(t, "Approximate of "+string(row.a)+" up to "+name(row.most), got, err, row.want, row.err)
	}
}
