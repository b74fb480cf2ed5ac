package bus

import (
	"math"
	"math/rand"
	"slices"
	"testing"

	"integraph/api"
)

func TestTracksAndClique(t *testing.T) {
	all := netsOf(slices.Repeat([][]int{{0, 1}}, 64)...)
	for _, row := range []struct {
		what   string
		nets   []api.Net
		order  []int
		tracks []int
		count  int
		clique []int
		at     int
	}{
		{"example 1", someNets(), []int{0, 1, 2, 3}, []int{0, 2, 1, 1}, 3, []int{0, 1, 2}, 1},
		{"example 3", someNets(), []int{1, 0, 2, 3}, []int{2, 0, 1, 1}, 3, []int{0, 1, 2}, 1},
		{"no nets", nil, []int{1, 0}, nil, 0, nil, 0},
		{"nets that do not meet", netsOf([]int{2}, []int{1}, []int{0}), []int{0, 1, 2}, []int{0, 0, 0}, 1, []int{2}, 0},
		{"nets that meet at an end", netsOf([]int{1, 2}, []int{0, 1}), []int{0, 1, 2}, []int{1, 0}, 2, []int{0, 1}, 1},
		{"nets that begin together", netsOf([]int{0, 2}, []int{0}, []int{0, 1}, []int{1}), []int{0, 1, 2}, []int{0, 1, 2, 1}, 3, []int{0, 1, 2}, 0},
		{"a net behind others", netsOf([]int{0, 3}, []int{0, 1}, []int{2, 4}, []int{4}), []int{0, 1, 2, 3, 4}, []int{0, 1, 1, 0}, 2, []int{0, 1}, 0},
		{"a net that is in no column of another", netsOf([]int{0, 4}, []int{1, 2}, []int{3}), []int{0, 1, 2, 3, 4}, []int{0, 1, 1}, 2, []int{0, 1}, 1},
		{"most at the end", netsOf([]int{0}, []int{1, 2}, []int{2}), []int{0, 1, 2}, []int{0, 0, 1}, 2, []int{1, 2}, 2},
		{"as many tracks as there may be", all, []int{1, 0}, count(64), 64, count(64), 0},
	} {
		tracks, n, err := Tracks(row.nets, len(row.order), row.order)
		expectList(t, row.what, tracks, err, row.tracks, api.OK)
		expect(t, row.what, n, err, row.count, api.OK)
		clique, at, err := Clique(row.nets, len(row.order), row.order)
		expectList(t, row.what+": clique", clique, err, row.clique, api.OK)
		expect(t, row.what+": position", at, err, row.at, api.OK)
	}
}

// plainTracks puts each net on a track as the chapter says it: net by net, track by track.
func plainTracks(nets []api.Net, order []int) []int {
	list := make([]int, len(nets))
	var before []int
	for position := range order {
		for i, net := range nets {
			if !slices.Contains(net.Columns, order[position]) || slices.Contains(before, i) {
				continue
			}
			isFree := func(track int) bool {
				return !slices.ContainsFunc(before, func(j int) bool { return list[j] == track && meetsAt(net, nets[j], order) })
			}
			for !isFree(list[i]) {
				list[i]++
			}
			before = append(before, i)
		}
	}
	return list
}

func TestTracksOfAny(t *testing.T) {
	r := rand.New(rand.NewSource(3))
	for range 300 {
		columns := 1 + r.Intn(12)
		nets, order := anyNets(r, 20, columns), r.Perm(columns)
		tracks, n, err := Tracks(nets, columns, order)
		want := plainTracks(nets, order)
		expectList(t, "Tracks", tracks, err, want, api.OK)
		expect(t, "the number of tracks", n, err, len(slices.Compact(slices.Sorted(slices.Values(want)))), api.OK)
	}
}

// TestCliqueOfAny counts the nets around each position.
func TestCliqueOfAny(t *testing.T) {
	r := rand.New(rand.NewSource(4))
	for range 300 {
		columns := 1 + r.Intn(12)
		nets, order := anyNets(r, 20, columns), r.Perm(columns)
		around := make([][]int, columns)
		most := 0
		for position := range columns {
			for i, net := range nets {
				if isAround(net, order, position) {
					around[position] = append(around[position], i)
				}
			}
			most = max(most, len(around[position]))
		}
		at := slices.IndexFunc(around, func(list []int) bool { return len(list) == most })
		clique, position, err := Clique(nets, columns, order)
		expectList(t, "Clique", clique, err, around[at], api.OK)
		expect(t, "the position of Clique", position, err, at, api.OK)
	}
}

func TestCheckClique(t *testing.T) {
	order := []int{0, 1, 2, 3} // in which only the last two nets do not meet
	for _, row := range []struct {
		clique []int
		want   api.Errno
	}{
		{nil, api.OK}, {[]int{3}, api.OK}, {[]int{0, 1, 2}, api.OK}, {[]int{2, 0, 1}, api.OK}, {[]int{0, 1, 3}, api.OK}, {[]int{3, 0}, api.OK},
		{[]int{2, 3}, api.ErrProof}, {[]int{3, 2}, api.ErrProof}, {[]int{3, 0, 1, 2}, api.ErrProof}, {[]int{2, 0, 1, 3}, api.ErrProof}, {[]int{0, 1, 2, 3}, api.ErrProof},
		{[]int{4}, api.ErrUnknown}, {[]int{-1}, api.ErrUnknown}, {[]int{2, 3, math.MaxInt}, api.ErrUnknown}, {[]int{0, math.MinInt, 0}, api.ErrUnknown},
		{[]int{1, 1}, api.ErrTwice}, {[]int{2, 3, 2}, api.ErrTwice}, {[]int{0, 0, 4}, api.ErrTwice}, {make([]int, 1000), api.ErrTwice},
	} {
		expectError(t, "CheckClique", CheckClique(someNets(), 4, order, row.clique), row.want)
	}
	expectError(t, "a net where there is none", CheckClique(nil, 4, order, []int{0}), api.ErrUnknown)
	expectError(t, "no net where there is none", CheckClique(nil, 4, order, nil), api.OK)
}

// TestCheckLayoutOfAny looks for a position at which two nets of a track are.
func TestCheckLayoutOfAny(t *testing.T) {
	r := rand.New(rand.NewSource(5))
	found := map[api.Errno]int{}
	for range 1000 {
		columns := 1 + r.Intn(8)
		nets, order := anyNets(r, 6, columns), r.Perm(columns)
		tracks := make([]int, len(nets))
		for i := range tracks {
			tracks[i] = r.Intn(6)
		}
		want := api.OK
		for i := range nets {
			for j := range i {
				if tracks[i] == tracks[j] && meetsAt(nets[i], nets[j], order) {
					want = api.ErrConflict
				}
			}
		}
		err := CheckLayout(nets, columns, api.Layout{Order: order, Tracks: tracks})
		expectError(t, "CheckLayout", err, want)
		found[err]++
	}
	if found[api.OK] < 100 || found[api.ErrConflict] < 100 {
		t.Errorf("the layouts are not of both kinds: %v", found)
	}
}
