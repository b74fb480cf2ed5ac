package bus

import (
	"math/rand"
	"slices"
	"testing"

	"integraph/api"
)

// under returns the crossings of the nets on the track a under those on the track b, wherever these are.
func under(nets []api.Net, order, tracks []int, a, b int) int {
	sum := 0
	for i, net := range nets {
		for _, column := range net.Columns {
			for j, other := range nets {
				if tracks[i] == b && tracks[j] == a && isAround(other, order, slices.Index(order, column)) {
					sum++
				}
			}
		}
	}
	return sum
}

// plainCrossings returns the crossings of a layout, pair of tracks by pair of tracks.
func plainCrossings(nets []api.Net, l api.Layout) int {
	used := slices.Compact(slices.Sorted(slices.Values(l.Tracks)))
	sum := 0
	for i, b := range used {
		for _, a := range used[:i] {
			sum += under(nets, l.Order, l.Tracks, a, b)
		}
	}
	return sum
}

// plainBound returns the sum of the lesser crossings of each pair of tracks.
func plainBound(nets []api.Net, l api.Layout) int {
	used := slices.Compact(slices.Sorted(slices.Values(l.Tracks)))
	sum := 0
	for i, b := range used {
		for _, a := range used[:i] {
			sum += min(under(nets, l.Order, l.Tracks, a, b), under(nets, l.Order, l.Tracks, b, a))
		}
	}
	return sum
}

// permutations returns all lists of the numbers from 0 to n - 1, in their order.
func permutations(n int) [][]int {
	if n == 0 {
		return [][]int{nil}
	}
	var all [][]int
	for first := range n {
		for _, rest := range permutations(n - 1) {
			list := []int{first}
			for _, k := range rest {
				if k >= first {
					k++
				}
				list = append(list, k)
			}
			all = append(all, list)
		}
	}
	return all
}

func TestCrossingsAndBound(t *testing.T) {
	lines := netsOf([]int{0, 1, 2}, []int{0, 2}, []int{1})
	all := netsOf(slices.Repeat([][]int{count(97)}, 64)...)
	for _, row := range []struct {
		what             string
		nets             []api.Net
		order, tracks    []int
		crossings, bound int
	}{
		{"example 2", someNets(), []int{0, 1, 2, 3}, []int{0, 2, 1, 1}, 6, 5},
		{"other tracks", someNets(), []int{0, 1, 2, 3}, []int{10, 63, 40, 40}, 6, 5},
		{"the tracks in another order", someNets(), []int{0, 1, 2, 3}, []int{1, 0, 2, 2}, 1 + 3 + 3, 1 + 2 + 2},
		{"no nets", nil, []int{0, 1}, nil, 0, 0},
		{"one net", netsOf([]int{0, 1}), []int{0, 1}, []int{63}, 0, 0},
		{"nets side by side", netsOf([]int{0, 1}, []int{2, 3}), []int{0, 1, 2, 3}, []int{1, 0}, 0, 0},
		{"nets over each other", lines, []int{0, 1, 2}, []int{2, 1, 0}, 3 + 1, 2 + 1},
		{"a tap at the end of another net", netsOf([]int{0, 1}, []int{1, 2}), []int{0, 1, 2}, []int{1, 0}, 1, 1},
		{"the same columns", netsOf([]int{0, 1}, []int{0, 1}), []int{0, 1}, []int{62, 63}, 2, 2},
		{"as many as there may be", all, count(97), count(64), 97 * 64 * 63 / 2, 97 * 64 * 63 / 2},
	} {
		l := api.Layout{Order: row.order, Tracks: row.tracks}
		crossings, err := Crossings(row.nets, len(row.order), l)
		expect(t, "Crossings: "+row.what, crossings, err, row.crossings, api.OK)
		bound, err := Bound(row.nets, len(row.order), l)
		expect(t, "Bound: "+row.what, bound, err, row.bound, api.OK)
	}
}

func TestCrossingsAndBoundOfAny(t *testing.T) {
	r := rand.New(rand.NewSource(6))
	for range 200 {
		columns := 1 + r.Intn(12)
		nets, order := anyNets(r, 16, columns), r.Perm(columns)
		l := api.Layout{Order: order, Tracks: anyTracks(r, nets, order, 48)}
		crossings, err := Crossings(nets, columns, l)
		expect(t, "Crossings", crossings, err, plainCrossings(nets, l), api.OK)
		bound, err := Bound(nets, columns, l)
		expect(t, "Bound", bound, err, plainBound(nets, l), api.OK)
	}
}

func TestArrange(t *testing.T) {
	for _, row := range []struct {
		what                string
		nets                []api.Net
		order, tracks, want []int
	}{
		{"the example", someNets(), []int{0, 1, 2, 3}, []int{0, 2, 1, 1}, []int{1, 2, 0, 0}},
		{"no nets", nil, []int{1, 0}, nil, nil},
		{"one net", netsOf([]int{1}), []int{1, 0}, []int{63}, []int{0}},
		{"tracks that are far from each other", netsOf([]int{0, 1}, []int{0, 1}, []int{0, 1}), []int{0, 1}, []int{63, 0, 7}, []int{0, 1, 2}},
		{"nets that belong on others", netsOf([]int{0, 1, 2}, []int{0, 2}, []int{1}), []int{0, 1, 2}, []int{0, 1, 2}, []int{0, 2, 1}},
		{"a net that belongs under others", netsOf([]int{0, 2}, []int{0, 1, 2}), []int{0, 1, 2}, []int{0, 1}, []int{1, 0}},
		{"tracks each of which belongs under another one", netsOf([]int{0, 3, 4}, []int{2, 8, 9}, []int{1, 2, 4, 10}), count(11), []int{2, 1, 0}, []int{0, 1, 2}},
		{"seven tracks", netsOf(slices.Repeat([][]int{{0, 1}}, 7)...), []int{0, 1}, []int{9, 8, 7, 6, 5, 4, 3}, count(7)},
	} {
		nets, columns := copyOfNets(row.nets), len(row.order)
		l, err := Arrange(nets, columns, api.Layout{Order: row.order, Tracks: row.tracks})
		expectLayout(t, row.what, l, err, api.Layout{Order: row.order, Tracks: row.want}, api.OK)
	}
	eight := netsOf(slices.Repeat([][]int{{0, 1}}, 8)...)
	l, err := Arrange(eight, 2, api.Layout{Order: []int{0, 1}, Tracks: []int{0, 1, 2, 3, 4, 5, 6, 63}})
	expectLayout(t, "eight tracks", l, err, api.Layout{}, api.ErrLimit)
	l, err = Arrange(eight, 2, api.Layout{Order: []int{0, 1}, Tracks: []int{0, 1, 2, 3, 4, 5, 6, 0}})
	expectLayout(t, "eight nets on seven tracks that meet", l, err, api.Layout{}, api.ErrConflict)
	apart := netsOf([]int{0}, []int{1}, []int{2}, []int{3}, []int{4}, []int{5}, []int{6}, []int{7})
	l, err = Arrange(apart, 8, api.Layout{Order: count(8), Tracks: []int{6, 5, 4, 3, 2, 1, 0, 6}})
	expectLayout(t, "eight nets on seven tracks", l, err, api.Layout{Order: count(8), Tracks: []int{0, 1, 2, 3, 4, 5, 6, 0}}, api.OK)
}

// TestArrangeOfAny compares with all numberings of the tracks.
func TestArrangeOfAny(t *testing.T) {
	r := rand.New(rand.NewSource(7))
	arranged, bettered := 0, 0
	for range 300 {
		columns := 1 + r.Intn(8)
		nets, order := anyNets(r, 9, columns), r.Perm(columns)
		l := api.Layout{Order: order, Tracks: anyTracks(r, nets, order, 1+r.Intn(6))}
		used := slices.Compact(slices.Sorted(slices.Values(l.Tracks)))
		got, err := Arrange(nets, columns, l)
		if len(used) > 5 { // which would take too long
			wantError := api.OK
			if len(used) > 7 {
				wantError = api.ErrLimit
			}
			expectError(t, "Arrange", err, wantError)
			continue
		}
		var best api.Layout
		for _, numbers := range permutations(len(used)) {
			other := api.Layout{Order: order}
			for _, track := range l.Tracks {
				other.Tracks = append(other.Tracks, numbers[slices.Index(used, track)])
			}
			by := -1
			if best.Order != nil {
				by = plainCrossings(nets, other) - plainCrossings(nets, best)
			}
			if by < 0 || by == 0 && slices.Compare(other.Tracks, best.Tracks) < 0 {
				best = other
			}
		}
		expectLayout(t, "Arrange", got, err, best, api.OK)
		arranged++
		if plainCrossings(nets, best) < plainCrossings(nets, l) {
			bettered++
		}
	}
	if arranged < 100 || bettered < 50 {
		t.Errorf("only %d layouts are arranged, and %d with fewer crossings", arranged, bettered)
	}
}

func TestBest(t *testing.T) {
	for _, row := range []struct {
		what    string
		nets    []api.Net
		columns int
		want    api.Layout
	}{
		{"no nets", nil, 3, api.Layout{Order: []int{0, 1, 2}}},
		{"one column", netsOf([]int{0}), 1, api.Layout{Order: []int{0}, Tracks: []int{0}}},
		{"eight columns without nets", nil, 8, api.Layout{Order: count(8)}},
		{"columns that belong together", netsOf([]int{0, 3}, []int{1, 2}), 4, api.Layout{Order: []int{0, 3, 1, 2}, Tracks: []int{0, 0}}},
		{"the length of equally crossed ones", netsOf([]int{0, 2}), 3, api.Layout{Order: []int{0, 2, 1}, Tracks: []int{0}}},
		{"a row of columns", netsOf([]int{0, 7}), 8, api.Layout{Order: []int{0, 7, 1, 2, 3, 4, 5, 6}, Tracks: []int{0}}},
	} {
		l, err := Best(row.nets, row.columns)
		expectLayout(t, row.what, l, err, row.want, api.OK)
	}
	l, err := Best(someNets(), 9)
	expectLayout(t, "nine columns", l, err, api.Layout{}, api.ErrLimit)
	l, err = Best(netsOf([]int{96}), 97)
	expectLayout(t, "97 columns", l, err, api.Layout{}, api.ErrLimit)
	l, err = Best(nil, 98)
	expectLayout(t, "98 columns", l, err, api.Layout{}, api.ErrRange)
	l, err = Best(netsOf([]int{0}, nil), 9)
	expectLayout(t, "wrong nets for nine columns", l, err, api.Layout{}, api.ErrEmpty)
	l, err = Best(make([]api.Net, 65), 9)
	expectLayout(t, "too many nets for nine columns", l, err, api.Layout{}, api.ErrMany)
}

// TestBestOfAny compares with all orders of the columns.
func TestBestOfAny(t *testing.T) {
	r := rand.New(rand.NewSource(8))
	for i := range 120 {
		columns := 1 + i%5
		nets := anyNets(r, 6, columns)
		var best api.Layout
		var least []int
		for _, order := range permutations(columns) {
			l := api.Layout{Order: order, Tracks: plainTracks(nets, order)}
			length := 0
			for _, net := range nets {
				for position := range columns {
					if isAround(net, order, position) {
						length++
					}
				}
				length--
			}
			tracks := len(slices.Compact(slices.Sorted(slices.Values(l.Tracks))))
			costs := []int{plainCrossings(nets, l), tracks, length}
			if least == nil || slices.Compare(costs, least) < 0 {
				best, least = l, costs
			}
		}
		l, err := Best(nets, columns)
		expectLayout(t, "Best", l, err, best, api.OK)
	}
}

// TestBestOfEightColumns compares with orders that differ in a few places, of as many columns as there may be.
func TestBestOfEightColumns(t *testing.T) {
	r := rand.New(rand.NewSource(9))
	for range 3 {
		nets := anyNets(r, 12, 8)
		best, err := Best(nets, 8)
		expectError(t, "Best", err, api.OK)
		costs := func(l api.Layout) []int {
			length, err := Length(nets, 8, l.Order)
			expectError(t, "Length", err, api.OK)
			return append([]int{plainCrossings(nets, l), len(slices.Compact(slices.Sorted(slices.Values(l.Tracks)))), length}, l.Order...)
		}
		expectList(t, "the tracks of Best", best.Tracks, err, plainTracks(nets, best.Order), api.OK)
		least := costs(best)
		for range 300 {
			order := slices.Clone(best.Order)
			for range 1 + r.Intn(3) {
				i, j := r.Intn(8), r.Intn(8)
				order[i], order[j] = order[j], order[i]
			}
			if other := costs(api.Layout{Order: order, Tracks: plainTracks(nets, order)}); slices.Compare(other, least) < 0 {
				t.Fatalf("the order %v of %v costs %v, but %v costs %v", best.Order, nets, least, order, other)
			}
		}
	}
}

func TestMirror(t *testing.T) {
	l, err := Mirror(someNets(), 4, api.Layout{Order: []int{1, 0, 2, 3}, Tracks: []int{2, 0, 1, 1}})
	expectLayout(t, "Mirror", l, err, api.Layout{Order: []int{3, 2, 0, 1}, Tracks: []int{2, 0, 1, 1}}, api.OK)
	l, err = Mirror(nil, 1, api.Layout{Order: []int{0}})
	expectLayout(t, "Mirror of one column", l, err, api.Layout{Order: []int{0}}, api.OK)
}
