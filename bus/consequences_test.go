package bus

import (
	"math/rand"
	"slices"
	"testing"

	"integraph/api"
)

// someTracked returns nets, the number of their columns, and an order of these with the tracks of Tracks.
func someTracked(t *testing.T, r *rand.Rand, nets, columns int) ([]api.Net, int, api.Layout, int) {
	t.Helper()
	n := 1 + r.Intn(columns)
	list, order := anyNets(r, nets, n), r.Perm(n)
	tracks, used, err := Tracks(list, n, order)
	expectError(t, "Tracks", err, api.OK)
	return list, n, api.Layout{Order: order, Tracks: tracks}, used
}

// TestLeastTracks has a layout with the tracks of Tracks, a clique of as many nets, and no layout with fewer tracks.
func TestLeastTracks(t *testing.T) {
	r := rand.New(rand.NewSource(14))
	for i := range 300 {
		most, widest := 64, 97
		if i%2 == 0 {
			most, widest = 5, 6
		}
		nets, columns, l, used := someTracked(t, r, most, widest)
		expectError(t, "the layout of Tracks", CheckLayout(nets, columns, l), api.OK)
		if different := slices.Compact(slices.Sorted(slices.Values(l.Tracks))); len(different) != used {
			t.Errorf("there are %d tracks, but %v", used, l.Tracks)
		}
		clique, _, err := Clique(nets, columns, l.Order)
		expect(t, "the nets of the clique", len(clique), err, used, api.OK)
		expectError(t, "the clique", CheckClique(nets, columns, l.Order, clique), api.OK)
		for n := 1; most == 5 && n < used; n++ {
			for _, tracks := range lists(len(nets), n) {
				if CheckLayout(nets, columns, api.Layout{Order: l.Order, Tracks: tracks}) == api.OK {
					t.Fatalf("%v in the order %v need %d tracks, but have the tracks %v", nets, l.Order, used, tracks)
				}
			}
		}
	}
}

// lists returns all lists of some numbers from 0 to n - 1.
func lists(length, n int) [][]int {
	if length == 0 {
		return [][]int{nil}
	}
	var all [][]int
	for _, list := range lists(length-1, n) {
		for k := range n {
			all = append(all, append(slices.Clone(list), k))
		}
	}
	return all
}

// TestCliquesProve has cliques that no layout puts on fewer tracks than they have nets.
func TestCliquesProve(t *testing.T) {
	r := rand.New(rand.NewSource(15))
	proofs := 0
	for range 3000 {
		nets, columns, l, used := someTracked(t, r, 5, 5)
		if len(nets) == 0 {
			continue
		}
		clique := r.Perm(len(nets))[:1+r.Intn(len(nets))]
		if CheckClique(nets, columns, l.Order, clique) == api.OK {
			proofs++
			if len(clique) > used {
				t.Errorf("the nets %v of %v are on %d tracks, but meet in the order %v", clique, nets, used, l.Order)
			}
		}
	}
	if proofs < 300 {
		t.Errorf("there are only %d proofs", proofs)
	}
}

// TestBounds has layouts whose tracks are numbered in all ways, none of which has fewer crossings than Bound, or than
// the layout of Arrange.
func TestBounds(t *testing.T) {
	r := rand.New(rand.NewSource(16))
	for range 150 {
		nets, columns, l, used := someTracked(t, r, 12, 12)
		if used > 7 {
			continue
		}
		bound, err := Bound(nets, columns, l)
		expectError(t, "Bound", err, api.OK)
		arranged, err := Arrange(nets, columns, l)
		expectError(t, "Arrange", err, api.OK)
		expectError(t, "the layout of Arrange", CheckLayout(nets, columns, arranged), api.OK)
		least, err := Crossings(nets, columns, arranged)
		expectError(t, "Crossings of Arrange", err, api.OK)
		for i := range l.Tracks {
			for j := range i {
				if (l.Tracks[i] == l.Tracks[j]) != (arranged.Tracks[i] == arranged.Tracks[j]) {
					t.Fatalf("the tracks %v become %v", l.Tracks, arranged.Tracks)
				}
			}
		}
		again, err := Bound(nets, columns, arranged)
		expect(t, "Bound of Arrange", again, err, bound, api.OK)
		for range 20 {
			numbers := r.Perm(api.MaxTracks)
			other := copyOfLayout(l)
			for i, track := range other.Tracks {
				other.Tracks[i] = numbers[track]
			}
			crossings, err := Crossings(nets, columns, other)
			if err != api.OK || crossings < bound || crossings < least || least < bound {
				t.Fatalf("%v have the bound %d, and %d crossings with the tracks %v, but %d with the tracks %v, and the error %d", nets, bound, crossings, other.Tracks, least, arranged.Tracks, err)
			}
		}
	}
}

// TestBestOfAll has no order whose tracks have fewer crossings than those of Best.
func TestBestOfAll(t *testing.T) {
	r := rand.New(rand.NewSource(17))
	for range 30 {
		nets, columns, _, _ := someTracked(t, r, 20, 7)
		best, err := Best(nets, columns)
		expectError(t, "Best", err, api.OK)
		least, err := Crossings(nets, columns, best)
		expectError(t, "Crossings of Best", err, api.OK)
		for range 50 {
			order := r.Perm(columns)
			tracks, _, err := Tracks(nets, columns, order)
			expectError(t, "Tracks", err, api.OK)
			if crossings, err := Crossings(nets, columns, api.Layout{Order: order, Tracks: tracks}); err != api.OK || crossings < least {
				t.Fatalf("%v have %d crossings in the order %v, and the error %d, but %d in that of Best, %v", nets, crossings, order, err, least, best.Order)
			}
		}
	}
}

// TestMirrored has as many crossings in the opposite order.
func TestMirrored(t *testing.T) {
	r := rand.New(rand.NewSource(18))
	for range 200 {
		nets, columns, l, _ := someTracked(t, r, 30, 30)
		crossings, err := Crossings(nets, columns, l)
		expectError(t, "Crossings", err, api.OK)
		mirrored, err := Mirror(nets, columns, l)
		expectError(t, "Mirror", err, api.OK)
		mirroredCrossings, err := Crossings(nets, columns, mirrored)
		expect(t, "Crossings of Mirror", mirroredCrossings, err, crossings, api.OK)
		again, err := Mirror(nets, columns, mirrored)
		expectLayout(t, "Mirror of Mirror", again, err, l, api.OK)
	}
}

// TestTablesAreReadBack lays out plans in the best order, or in any one, writes their tables, and reads them.
func TestTablesAreReadBack(t *testing.T) {
	r := rand.New(rand.NewSource(19))
	for range 200 {
		p := somePlan(t, r, r.Intn(8))
		nets, columns, err := Nets(p)
		expectError(t, "Nets", err, api.OK)
		l := someLayout(t, r, p)
		if columns < 7 && r.Intn(2) == 0 {
			l, err = Best(nets, columns)
			expectError(t, "Best", err, api.OK)
		}
		s, err := Table(p, l)
		expectError(t, "Table", err, api.OK)
		expectRead(t, s, p, l)
	}
}
