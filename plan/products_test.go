package plan

import (
	"math/big"
	"math/rand"
	"slices"
	"strconv"
	"strings"
	"testing"

	"integraph/api"
	"integraph/exact"
)

// The tests of this file are those of P4.4.

// named returns the product of powers with a text such as xxy, where t, x, y, z and w are t and the variables.
func named(text string, vars int) []int {
	powers := make([]int, vars+1)
	for _, letter := range text {
		powers[strings.IndexRune("txyzw", letter)]++
	}
	return powers
}

// expectProducts reports products, a cost or an error that are not the wanted ones: products are texts such as
// "xxy = y * xx".
func expectProducts(t *testing.T, what string, s api.System, cost int, err api.Errno, texts ...string) {
	t.Helper()
	got, gotCost, gotErr := Products(s)
	var want []Product
	for _, text := range texts {
		words := strings.Fields(text)
		vars := len(s.Names)
		want = append(want, Product{named(words[0], vars), named(words[2], vars), named(words[4], vars)})
	}
	same := slices.EqualFunc(got, want, func(p, q Product) bool {
		return slices.Equal(p.Of, q.Of) && slices.Equal(p.A, q.A) && slices.Equal(p.B, q.B)
	})
	if !same || gotCost != cost || gotErr != err {
		t.Errorf("Products of %s: got %v, %d and the error %d, want %v, %d and %d", what, got, gotCost, gotErr, want, cost, err)
	}
}

func TestProducts(t *testing.T) {
	for _, row := range []struct {
		rates string // of x, y, z and w
		cost  int
		err   api.Errno
		want  []string
	}{
		{"0", 0, api.OK, nil}, {"3 - t + x", 0, api.OK, nil}, {"y^2", 1, api.OK, []string{"yy = y * y"}}, {"t^2", 1, api.OK, []string{"tt = t * t"}}, {"x * y", 2, api.OK, []string{"xy = x * y"}}, {"t * y + 1", 2, api.OK, []string{"ty = t * y"}},
		{"x * y * z", 4, api.OK, []string{"xy = x * y", "xyz = z * xy"}}, {"x^3", 3, api.OK, []string{"xx = x * x", "xxx = x * xx"}}, {"x^4", 2, api.OK, []string{"xx = x * x", "xxxx = xx * xx"}}, {"x^5", 4, api.OK, []string{"xx = x * x", "xxxx = xx * xx", "xxxxx = x * xxxx"}},
		{"x^6", 4, api.OK, []string{"xx = x * x", "xxx = x * xx", "xxxxxx = xxx * xxx"}}, {"x^4 + x^6", 4, api.OK, []string{"xx = x * x", "xxxx = xx * xx", "xxxxxx = xx * xxxx"}}, {"x^8", 3, api.OK, []string{"xx = x * x", "xxxx = xx * xx", "xxxxxxxx = xxxx * xxxx"}},
		{"x^2 * y", 3, api.OK, []string{"xx = x * x", "xxy = y * xx"}}, {"x^2 * y + x * y", 4, api.OK, []string{"xy = x * y", "xxy = x * xy"}}, {"x * y^2 + x * y", 4, api.OK, []string{"xy = x * y", "xyy = y * xy"}}, {"x^2 * y + x^2 + x * y", 5, api.OK, []string{"xx = x * x", "xy = x * y", "xxy = x * xy"}},
		{"x^2 * y^2", 3, api.OK, []string{"xy = x * y", "xxyy = xy * xy"}}, {"x^2 * y^2 + x^2 + y^2", 4, api.OK, []string{"xx = x * x", "yy = y * y", "xxyy = xx * yy"}}, {"x^4 * y^4", 0, api.ErrLimit, nil},
		{"x * y + y * z + z * x", 6, api.OK, []string{"xy = x * y", "xz = x * z", "yz = y * z"}}, {"x * y * z + y * z", 4, api.OK, []string{"yz = y * z", "xyz = x * yz"}}, {"t * x * y", 4, api.OK, []string{"tx = t * x", "txy = y * tx"}},
		{"x * y * z * w", 6, api.OK, []string{"xy = x * y", "zw = z * w", "xyzw = xy * zw"}}, {"x * y * z * w + x * w", 6, api.OK, []string{"xw = x * w", "yz = y * z", "xyzw = xw * yz"}}, {"x * y * z * w + x * z * w", 6, api.OK, []string{"xz = x * z", "xzw = w * xz", "xyzw = y * xzw"}},
		{"x^12", 5, api.OK, []string{"xx = x * x", "xxx = x * xx", "xxxxxx = xxx * xxx", "xxxxxxxxxxxx = xxxxxx * xxxxxx"}}, {"x^3 * y^3", 5, api.OK, []string{"xy = x * y", "xxyy = xy * xy", "xxxyyy = xy * xxyy"}},
		{"t * x * y * z * w", 0, api.ErrLimit, nil}, {"x^4 * y^4 * z", 0, api.ErrLimit, nil},
	} {
		s := sys(t, "x: "+row.rates+"; 1", "y: 0; 1", "z: 0; 1", "w: 0; 1")
		expectProducts(t, row.rates, s, row.cost, row.err, row.want...)
		expectProducts(t, "inexact starts and "+row.rates, spread(s), row.cost, row.err, row.want...)
	}
}

func TestProductsLimits(t *testing.T) {
	eight := "x^2 + x * y + y^2 + t * x + t * y + t^2 + z^2 + t * z"
	expectProducts(t, "8 targets", sys(t, "x: "+eight+"; 1", "y: x^2 + z; 0", "z: 1; 1"), 12, api.OK, "tt = t * t", "tx = t * x", "ty = t * y", "tz = t * z", "xx = x * x", "xy = x * y", "yy = y * y", "zz = z * z")
	expectProducts(t, "9 targets", sys(t, "x: "+eight+"; 1", "y: x^2 + y * z; 0", "z: 1; 1"), 0, api.ErrMany)
	// x^4 y^3 has 20 divisors: three of them have a sum below 2
	expectProducts(t, "16 monomials that are no targets", sys(t, "x: x^4 * y^3; 1", "y: 1; 0"), 0, api.ErrLimit)
	expectProducts(t, "13 monomials that are no targets", sys(t, "x: x^4 * y^3 + x^4 * y^2 + x^4 * y + x^3; 1", "y: 1; 0"), 0, api.ErrLimit)
	expectProducts(t, "12 monomials that are no targets", sys(t, "x: x^4 * y^3 + x^4 * y^2 + x^4 * y + x^3 + y^2; 1", "y: 1; 0"), 11, api.OK, "xx = x * x", "yy = y * y", "xxx = x * xx", "xxy = y * xx", "xxxxy = xx * xxy", "xxxxyy = xxy * xxy", "xxxxyyy = y * xxxxyy")
	expectProducts(t, "9 targets before the limit", sys(t, "x: "+eight+" + x^4 * y^3 * z^5; 1", "y: 1; 0", "z: 1; 1"), 0, api.ErrMany)
	expectProducts(t, "no system", api.System{}, 0, api.ErrEmpty)
}

// search finds the best stock among some monomials, which are in their order, also those that divide no target.
type search struct {
	all     [][]int
	targets int // a set of them
	ways    [][]way
}

// way is a way in which a monomial is a product: its factors, and the set of those that are not alone.
type way struct {
	a, b  []int
	needs int
}

func (w way) isSquare() bool { return slices.Equal(w.a, w.b) }

func sumOf(powers []int) int {
	sum := 0
	for _, power := range powers {
		sum += power
	}
	return sum
}

// compareLists compares monomials in their order.
func compareLists(a, b []int) int {
	if sumOf(a) != sumOf(b) {
		return sumOf(a) - sumOf(b)
	}
	return slices.Compare(b, a)
}

// newSearch returns a search among all monomials of t and some variables up to a degree.
func newSearch(vars, most int, targets [][]int) search {
	var s search
	powers := make([]int, vars+1)
	var visit func(v, left int)
	visit = func(v, left int) {
		if v < len(powers) {
			for power := range left + 1 {
				powers[v] = power
				visit(v+1, left-power)
			}
		} else if most-left >= 1 {
			s.all = append(s.all, slices.Clone(powers))
		}
	}
	visit(0, most)
	slices.SortFunc(s.all, compareLists)
	for i, of := range s.all {
		if slices.ContainsFunc(targets, func(m []int) bool { return slices.Equal(m, of) }) {
			s.targets |= 1 << i
		}
		var ways []way
		for j, a := range s.all {
			for k, b := range s.all[j:] {
				product := make([]int, vars+1)
				for v := range product {
					product[v] = a[v] + b[v]
				}
				if slices.Equal(product, of) {
					ways = append(ways, way{a, b, (1<<j | 1<<(j+k)) &^ (1<<(vars+1) - 1)})
				}
			}
		}
		s.ways = append(s.ways, ways)
	}
	return s
}

// run returns the best stock, and its cost; the monomials with the sum 1 stand first.
func (s search) run(vars int) ([]Product, int) {
	var best []Product
	bestCost := -1
sets:
	for set := range 1 << len(s.all) {
		if set&(1<<(vars+1)-1) != 0 || s.targets&^set != 0 {
			continue
		}
		var list []Product
		cost := 0
		for i, of := range s.all {
			if set>>i&1 == 0 {
				continue
			}
			fits := func(w way) bool { return w.needs&^set == 0 }
			at := slices.IndexFunc(s.ways[i], func(w way) bool { return w.isSquare() && fits(w) })
			cost++
			if at < 0 {
				at = slices.IndexFunc(s.ways[i], fits)
				cost++
			}
			if at < 0 {
				continue sets
			}
			list = append(list, Product{of, s.ways[i][at].a, s.ways[i][at].b})
		}
		if bestCost < 0 || cost < bestCost || cost == bestCost && slices.CompareFunc(list, best, func(p, q Product) int { return compareLists(p.Of, q.Of) }) < 0 {
			best, bestCost = list, cost
		}
	}
	return best, bestCost
}

// TestProductsAreBest compares stocks with those of a search through all sets of monomials.
func TestProductsAreBest(t *testing.T) {
	r := rand.New(rand.NewSource(6))
	costs := map[int]bool{}
	for range 60 {
		vars, most := 1, 5
		if r.Intn(2) == 0 {
			vars, most = 2, 3
		}
		s := someSystem(t, r, vars, 2, most)
		var targets [][]int
		for _, rate := range s.Rates {
			for _, term := range rate {
				if sumOf(term.Powers) >= 2 {
					targets = append(targets, term.Powers)
				}
			}
		}
		want, wantCost := newSearch(vars, most, targets).run(vars)
		got, cost, err := Products(s)
		expect(t, "the cost", cost, err, wantCost, api.OK)
		costs[cost] = true
		if !slices.EqualFunc(got, want, func(p, q Product) bool {
			return slices.Equal(p.Of, q.Of) && slices.Equal(p.A, q.A) && slices.Equal(p.B, q.B)
		}) {
			t.Errorf("Products of %v: got %v, want %v", s.Rates, got, want)
		}
	}
	if len(costs) < 6 {
		t.Errorf("only the costs %v", costs)
	}
}

func TestProductsShareNothing(t *testing.T) {
	s := sys(t, "x: x^4; 1")
	got, _, _ := Products(s)
	for i := range got {
		for _, list := range [][]int{got[i].Of, got[i].A, got[i].B} {
			list[1] += 100 * (i + 1)
		}
	}
	if got[1].A[1] != 202 || got[1].B[1] != 202 || got[0].Of[1] != 102 || s.Rates[0][0].Powers[1] != 4 {
		t.Errorf("results share memory: %v", got)
	}
}

// dense returns the rank of a matrix of the library's numbers.
func dense(rows [][]*big.Rat) int {
	rank := 0
	for column := 0; len(rows) > rank && column < len(rows[0]); column++ {
		at := slices.IndexFunc(rows[rank:], func(row []*big.Rat) bool { return row[column].Sign() != 0 })
		if at < 0 {
			continue
		}
		rows[rank], rows[rank+at] = rows[rank+at], rows[rank]
		for _, row := range rows[rank+1:] {
			factor := new(big.Rat).Quo(row[column], rows[rank][column])
			for i := range row {
				row[i] = new(big.Rat).Sub(row[i], new(big.Rat).Mul(factor, rows[rank][i]))
			}
		}
		rank++
	}
	return rank
}

func TestRank(t *testing.T) {
	for _, row := range []struct {
		s    []string
		want int
	}{
		{[]string{"x: 0; 1"}, 0}, {[]string{"x: 5; 1"}, 0}, {[]string{"x: t; 1"}, 1}, {[]string{"x: t + 1; 1", "y: 2 * t - 3; 0"}, 1}, {[]string{"x: x; 1", "y: x; 1"}, 1}, {[]string{"x: v; 1", "v: -x; 0"}, 2}, {[]string{"x: 0; 1", "y: 0; 1", "z: x * y * z; 1"}, 1},
		{[]string{"x: x^2 + y; 1", "y: y - 1; 1", "z: x^2 + 2 * y + 7; 1"}, 2}, {[]string{"x: x^2 + y; 1", "y: y - 1; 1", "z: x^2 + 2 * y + t; 1"}, 3}, {[]string{"x: x * y; 1", "y: -x * y; 1"}, 1},
	} {
		got, err := Rank(sys(t, row.s...))
		expect(t, "Rank of "+row.s[0], got, err, row.want, api.OK)
	}
	got, err := Rank(ring(24))
	expect(t, "Rank of 24 variables", got, err, 24, api.OK)
	got, err = Rank(spread(ring(3)))
	expect(t, "Rank of inexact starts", got, err, 3, api.OK)
	got, err = Rank(api.System{})
	expect(t, "Rank of nothing", got, err, 0, api.ErrEmpty)
	got, err = Rank(api.System{Names: []string{"?"}, Rates: []api.Poly{nil}, Start: []api.Span{{Low: "0", High: "0"}}})
	expect(t, "Rank of no system", got, err, 0, api.ErrName)
}

// TestRankOfMatrices compares ranks with those of matrices of the library's numbers.
func TestRankOfMatrices(t *testing.T) {
	r := rand.New(rand.NewSource(7))
	ranks := map[string]bool{}
	for range 300 {
		vars := 1 + r.Intn(5)
		s := someSystem(t, r, vars, 3, 1)
		if vars > 2 { // a rate that is made of two others
			two := must[api.Poly](t, "ScalePoly")(exact.ScalePoly(someRat(r), s.Rates[1], vars))
			s.Rates[2] = must[api.Poly](t, "AddPoly")(exact.AddPoly(s.Rates[0], two, vars))
		}
		columns := map[string]int{}
		for _, rate := range s.Rates {
			for _, term := range rate {
				name := ""
				for _, power := range term.Powers {
					name += strconv.Itoa(power) + " "
				}
				if _, ok := columns[name]; !ok {
					columns[name] = len(columns)
				}
			}
		}
		constant := strings.Repeat("0 ", vars+1)
		if _, ok := columns[constant]; !ok {
			columns[constant] = len(columns)
		}
		matrix := make([][]*big.Rat, vars+1)
		for i := range matrix {
			matrix[i] = make([]*big.Rat, len(columns))
			for j := range matrix[i] {
				matrix[i][j] = new(big.Rat)
			}
		}
		matrix[vars][columns[constant]].SetInt64(1)
		for i, rate := range s.Rates {
			for _, term := range rate {
				name := ""
				for _, power := range term.Powers {
					name += strconv.Itoa(power) + " "
				}
				matrix[i][columns[name]] = bigOf(term.Factor)
			}
		}
		want := dense(matrix) - 1
		got, err := Rank(s)
		expect(t, "Rank", got, err, want, api.OK)
		ranks[strconv.Itoa(vars)+" "+strconv.Itoa(want)] = true
	}
	if len(ranks) < 12 {
		t.Errorf("only %v", ranks)
	}
}
