package gear

import (
	"math/big"
	"math/rand"
	"slices"
	"strconv"
	"strings"
	"testing"

	"integraph/api"
)

// digits returns a digit n times.
func digits(digit string, n int) api.Rat { return api.Rat(strings.Repeat(digit, n)) }

// expectError reports an error that is not the wanted one.
func expectError(t *testing.T, what string, got, want api.Errno) {
	t.Helper()
	if got != want {
		t.Errorf("%s: got the error %d, want %d", what, got, want)
	}
}

// expect reports a result, or an error, that is not the wanted one.
func expect[T comparable](t *testing.T, what string, got T, err api.Errno, want T, wantError api.Errno) {
	t.Helper()
	if got != want || err != wantError {
		t.Errorf("%s: got %v and the error %d, want %v and %d", what, got, err, want, wantError)
	}
}

// expectList reports a list, or an error, that is not the wanted one.
func expectList[T comparable](t *testing.T, what string, got []T, err api.Errno, want []T, wantError api.Errno) {
	t.Helper()
	if !slices.Equal(got, want) || err != wantError {
		t.Errorf("%s: got %v and the error %d, want %v and %d", what, got, err, want, wantError)
	}
}

// expectTrains reports a list of trains, or an error, that is not the wanted one.
func expectTrains(t *testing.T, what string, got [][]api.Pair, err api.Errno, want [][]api.Pair, wantError api.Errno) {
	t.Helper()
	if !slices.EqualFunc(got, want, slices.Equal) || err != wantError {
		t.Errorf("%s: got %v and the error %d, want %v and %d", what, got, err, want, wantError)
	}
}

// bigOf returns the number of the library.
func bigOf(a api.Rat) *big.Rat {
	x, ok := new(big.Rat).SetString(string(a))
	if !ok {
		panic("no number: " + string(a))
	}
	return x
}

// ratOf returns the number with a value of the library.
func ratOf(x *big.Rat) api.Rat { return api.Rat(x.RatString()) }

// someRat returns a number above 0 with small numerator and denominator.
func someRat(r *rand.Rand, most int) api.Rat {
	return ratOf(big.NewRat(int64(1+r.Intn(most)), int64(1+r.Intn(most))))
}

// wheels returns the stock with so many wheels of a number of teeth, and so on.
func wheels(counts ...int) []api.Wheel {
	var stock []api.Wheel
	for i := 0; i < len(counts); i += 2 {
		stock = append(stock, api.Wheel{Count: counts[i], Teeth: counts[i+1]})
	}
	return stock
}

// example is the stock of the examples.
func example() []api.Wheel { return wheels(2, 20, 1, 30, 1, 50) }

// kinds returns a stock of some kinds of one wheel each.
func kinds(n int) []api.Wheel {
	var stock []api.Wheel
	for i := range n {
		stock = append(stock, api.Wheel{Teeth: 6 + i, Count: 1})
	}
	return stock
}

// pairs returns the train with these teeth, those of each driver in front of those of its driven wheel.
func pairs(teeth ...int) []api.Pair {
	var train []api.Pair
	for i := 0; i < len(teeth); i += 2 {
		train = append(train, api.Pair{Driver: teeth[i], Driven: teeth[i+1]})
	}
	return train
}

// someStock returns a small stock; the teeth have many common divisors.
func someStock(r *rand.Rand, most int) []api.Wheel {
	var stock []api.Wheel
	teeth := 6 * r.Intn(2)
	for range 1 + r.Intn(most) {
		teeth += 6 + 2*r.Intn(5)
		stock = append(stock, api.Wheel{Teeth: teeth, Count: 1 + r.Intn(3)})
	}
	return stock
}

// someTrain returns a train of a few different wheels.
func someTrain(r *rand.Rand) []api.Pair {
	var train []api.Pair
	for range r.Intn(5) {
		train = append(train, api.Pair{Driver: 6 + 3*r.Intn(4), Driven: 6 + 3*r.Intn(4)})
	}
	return train
}

// bigRatio returns the ratio of a train.
func bigRatio(train []api.Pair) *big.Rat {
	ratio := big.NewRat(1, 1)
	for _, p := range train {
		ratio.Mul(ratio, big.NewRat(int64(p.Driver), int64(p.Driven)))
	}
	return ratio
}

// isNormal reports whether a train is in normal form.
func isNormal(train []api.Pair) bool {
	for i, p := range train {
		if i > 0 && (p.Driver < train[i-1].Driver || p.Driven < train[i-1].Driven) {
			return false
		}
		for _, q := range train {
			if p.Driver == q.Driven {
				return false
			}
		}
	}
	return true
}

// isBuilt reports whether trains can be built from a stock together.
func isBuilt(stock []api.Wheel, trains ...[]api.Pair) bool {
	counts := map[int]int{}
	for _, train := range trains {
		for _, p := range train {
			counts[p.Driver]++
			counts[p.Driven]++
		}
	}
	for teeth, count := range counts {
		if !slices.ContainsFunc(stock, func(w api.Wheel) bool { return w.Teeth == teeth && w.Count >= count }) {
			return false
		}
	}
	return true
}

func TestCheckStock(t *testing.T) {
	full := kinds(32)
	for _, row := range []struct {
		what  string
		stock []api.Wheel
		want  api.Errno
	}{
		{"nothing", nil, api.ErrEmpty}, {"the example", example(), api.OK}, {"32 kinds", full, api.OK}, {"33 kinds", make([]api.Wheel, 33), api.ErrMany},
		{"6 teeth", wheels(1, 6), api.OK}, {"5 teeth", wheels(1, 5), api.ErrRange}, {"400 teeth", wheels(1, 400), api.OK}, {"401 teeth", wheels(1, 401), api.ErrRange}, {"-20 teeth", wheels(1, -20), api.ErrRange},
		{"a wheel", wheels(1, 20), api.OK}, {"no wheel", wheels(0, 20), api.ErrRange}, {"-1 wheels", wheels(-1, 20), api.ErrRange}, {"very many wheels", wheels(999999999, 20), api.OK}, {"too many wheels", wheels(1000000000, 20), api.ErrRange},
		{"equal teeth", wheels(1, 20, 1, 20), api.ErrOrder}, {"falling teeth", wheels(1, 20, 1, 19), api.ErrOrder}, {"rising teeth", wheels(1, 20, 1, 21), api.OK},
		{"a range in front of an order", wheels(1, 20, 0, 19), api.ErrRange}, {"an order in front of a range", wheels(1, 20, 1, 19, 0, 30), api.ErrOrder}, {"a range in the first kind", wheels(0, 20, 1, 19), api.ErrRange},
	} {
		expectError(t, "CheckStock: "+row.what, CheckStock(row.stock), row.want)
	}
}

func TestCheckTrain(t *testing.T) {
	five := make([]api.Pair, 5)
	for _, row := range []struct {
		what  string
		stock []api.Wheel
		train []api.Pair
		want  api.Errno
	}{
		{"no stock", nil, five, api.ErrEmpty}, {"a wrong stock", wheels(1, 5), five, api.ErrRange}, {"five pairs", example(), five, api.ErrMany}, {"no pairs", example(), nil, api.OK},
		{"a driver 0", example(), pairs(20, 30, 0, 20), api.ErrRange}, {"a driven 0", example(), pairs(20, 0), api.ErrRange}, {"a driver 401", example(), pairs(401, 20), api.ErrRange}, {"a driven 401", example(), pairs(20, 401), api.ErrRange}, {"a driven -1", example(), pairs(20, -1), api.ErrRange},
		{"a driver that is missing", example(), pairs(40, 20), api.ErrStock}, {"a driven that is missing", example(), pairs(20, 1), api.ErrStock}, {"400 teeth", example(), pairs(400, 1), api.ErrStock}, {"a range behind a wheel that is missing", example(), pairs(40, 20, 0, 1), api.ErrRange},
		{"example 1", example(), pairs(20, 30, 30, 50), api.ErrStock}, {"its normal form", example(), pairs(20, 50), api.OK}, {"all wheels", example(), pairs(50, 20, 30, 20), api.OK}, {"three of two wheels", example(), pairs(20, 20, 20, 50), api.ErrStock}, {"a wheel against its like", example(), pairs(20, 20), api.OK}, {"a wheel against itself", example(), pairs(30, 30), api.ErrStock},
		{"four pairs", wheels(8, 6), pairs(6, 6, 6, 6, 6, 6, 6, 6), api.OK}, {"four pairs of 7 wheels", wheels(7, 6), pairs(6, 6, 6, 6, 6, 6, 6, 6), api.ErrStock},
	} {
		expectError(t, "CheckTrain: "+row.what, CheckTrain(row.stock, row.train), row.want)
	}
	r := rand.New(rand.NewSource(1))
	built := 0
	for range 3000 {
		stock, train := someStock(r, 5), someTrain(r)
		want := api.ErrStock
		if isBuilt(stock, train) {
			want = api.OK
			built++
		}
		expectError(t, "CheckTrain", CheckTrain(stock, train), want)
	}
	if built < 300 {
		t.Errorf("only %d trains can be built", built)
	}
}

func TestRatio(t *testing.T) {
	for _, row := range []struct {
		what  string
		train []api.Pair
		want  api.Rat
		err   api.Errno
	}{
		{"example 1", pairs(20, 30, 30, 50), "2/5", api.OK}, {"no pairs", nil, "1", api.OK}, {"a pair", pairs(400, 1), "400", api.OK}, {"four pairs", pairs(1, 400, 1, 400, 1, 400, 1, 400), "1/25600000000", api.OK}, {"four other pairs", pairs(400, 1, 400, 1, 400, 1, 400, 1), "25600000000", api.OK},
		{"five pairs", make([]api.Pair, 5), "", api.ErrMany}, {"a driver 0", pairs(0, 20), "", api.ErrRange}, {"a driven 0", pairs(20, 30, 20, 0), "", api.ErrRange}, {"a driver 401", pairs(401, 20), "", api.ErrRange}, {"a driven -5", pairs(20, -5), "", api.ErrRange},
	} {
		got, err := Ratio(row.train)
		expect(t, "Ratio: "+row.what, got, err, row.want, row.err)
	}
	r := rand.New(rand.NewSource(2))
	for range 1000 {
		train := someTrain(r)
		got, err := Ratio(train)
		expect(t, "Ratio", got, err, ratOf(bigRatio(train)), api.OK)
	}
}

func TestNormal(t *testing.T) {
	for _, row := range []struct {
		what        string
		train, want []api.Pair
		err         api.Errno
	}{
		{"example 1", pairs(20, 30, 30, 50), pairs(20, 50), api.OK}, {"no pairs", nil, nil, api.OK}, {"a pair of the same", pairs(7, 7), nil, api.OK}, {"an order", pairs(30, 9, 20, 8, 25, 7), pairs(20, 7, 25, 8, 30, 9), api.OK},
		{"one of two", pairs(30, 9, 30, 8, 10, 30), pairs(10, 8, 30, 9), api.OK}, {"one of two drivens", pairs(30, 9, 10, 30, 10, 30), pairs(10, 9, 10, 30), api.OK}, {"a ring", pairs(10, 20, 20, 30, 30, 40, 40, 10), nil, api.OK}, {"a ratio that can be reduced", pairs(20, 40), pairs(20, 40), api.OK},
		{"five pairs", make([]api.Pair, 5), nil, api.ErrMany}, {"a driver 401", pairs(20, 30, 401, 20), nil, api.ErrRange}, {"a driven 0", pairs(20, 0), nil, api.ErrRange},
	} {
		got, err := Normal(row.train)
		expectList(t, "Normal: "+row.what, got, err, row.want, row.err)
	}
	r := rand.New(rand.NewSource(3))
	for range 3000 {
		train := someTrain(r)
		got, err := Normal(train)
		expectList(t, "Normal", got, err, normalOf(train), api.OK)
	}
}

// normalOf returns the normal form of a train: what all drivers have more than the drivens, and the other way round.
func normalOf(train []api.Pair) []api.Pair {
	var drivers, drivens []int
	for teeth := 1; teeth <= 400; teeth++ {
		more := 0
		for _, p := range train {
			if p.Driver == teeth {
				more++
			}
			if p.Driven == teeth {
				more--
			}
		}
		drivers = append(drivers, slices.Repeat([]int{teeth}, max(more, 0))...)
		drivens = append(drivens, slices.Repeat([]int{teeth}, max(-more, 0))...)
	}
	var normal []api.Pair
	for i := range drivers {
		normal = append(normal, api.Pair{Driver: drivers[i], Driven: drivens[i]})
	}
	return normal
}

// name returns the text of some numbers, for a message.
func name(numbers ...int) string {
	var words []string
	for _, n := range numbers {
		words = append(words, strconv.Itoa(n))
	}
	return strings.Join(words, " ")
}
