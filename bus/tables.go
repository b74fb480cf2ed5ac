package bus

import (
	"cmp"
	"slices"
	"strconv"
	"strings"

	"integraph/api"
	"integraph/exact"
	"integraph/limits"
)

// The words of a wiring table.
const (
	shaftsWord  = "shafts"
	startWord   = "start"
	feedsWord   = "feeds"
	curveWord   = "curve"
	outputsWord = "outputs"
	orderWord   = "order"
	tracksWord  = "tracks"
	ratioSign   = "*"
)

// readPlan returns the row of the nets of a plan with a layout, or the first error of them.
func readPlan(p api.Plan, l api.Layout) (*row, api.Errno) {
	nets, columns, e := Nets(p)
	if e != api.OK {
		return nil, e
	}
	return readLayout(nets, columns, l)
}

// Table returns the wiring table of a plan.
func Table(p api.Plan, l api.Layout) (string, api.Errno) {
	if _, e := readPlan(p, l); e != api.OK {
		return "", e
	}
	lines := [][]string{named(shaftsWord, p.Shafts)}
	for _, u := range p.Units {
		lines = append(lines, wordsOf(u))
	}
	lines = append(lines, named(outputsWord, p.Outputs...), named(orderWord, l.Order...), named(tracksWord, l.Tracks...))
	text := write(lines...)
	if len(text) > api.MaxLog {
		return "", api.ErrLong
	}
	return text, api.OK
}

// write returns the text of some lines.
func write(lines ...[]string) string {
	var b strings.Builder
	for _, words := range lines {
		b.WriteString(strings.Join(words, " ") + "\n")
	}
	return b.String()
}

// named returns the words of a name and some numbers.
func named(name string, numbers ...int) []string {
	words := []string{name}
	for _, n := range numbers {
		words = append(words, strconv.Itoa(n))
	}
	return words
}

// wordsOf returns the words of the line of a unit.
func wordsOf(u api.Unit) []string {
	words := []string{u.Kind, strconv.Itoa(u.Out), startWord, string(u.Start), feedsWord}
	for _, f := range u.Feeds {
		words = append(words, strconv.Itoa(f.Shaft)+ratioSign+string(f.Ratio))
	}
	if hasCurve(u.Kind) {
		words = append(words, curveWord)
	}
	for _, a := range u.Curve {
		words = append(words, string(a))
	}
	return words
}

// hasCurve reports whether the units of a kind have a curve in their lines.
func hasCurve(kind string) bool { return kind == "table" }

// ReadTable returns the plan and the layout of a wiring table.
func ReadTable(s string) (api.Plan, api.Layout, int, api.Errno) {
	if len(s) > api.MaxLog {
		return api.Plan{}, api.Layout{}, 0, api.ErrLong
	}
	text, isWhole := strings.CutSuffix(s, "\n")
	if !isWhole {
		return api.Plan{}, api.Layout{}, 0, api.ErrTorn
	}
	p, l, wrong := readLines(strings.Split(text, "\n"))
	if wrong > 0 {
		return api.Plan{}, api.Layout{}, wrong, api.ErrSyntax
	}
	if _, e := readPlan(p, l); e != api.OK {
		return api.Plan{}, api.Layout{}, 0, e
	}
	return p, l, 0, api.OK
}

// readLines returns the plan and the layout of the lines of a wiring table, or the number of the first wrong one.
func readLines(lines []string) (api.Plan, api.Layout, int) {
	shafts, e := readNamed(lines[0], shaftsWord)
	if e != api.OK || len(shafts) != 1 {
		return api.Plan{}, api.Layout{}, 1
	}
	p := api.Plan{Shafts: shafts[0]}
	read := 1
	for ; read < len(lines) && !isOutputs(lines[read]); read++ {
		u, e := readUnit(lines[read])
		if e != api.OK {
			return api.Plan{}, api.Layout{}, read + 1
		}
		p.Units = append(p.Units, u)
	}
	var lists [3][]int
	for i, name := range [...]string{outputsWord, orderWord, tracksWord} {
		if read == len(lines) {
			return api.Plan{}, api.Layout{}, read + 1
		}
		if lists[i], e = readNamed(lines[read], name); e != api.OK {
			return api.Plan{}, api.Layout{}, read + 1
		}
		read++
	}
	if read < len(lines) {
		return api.Plan{}, api.Layout{}, read + 1
	}
	p.Outputs = lists[0]
	return p, api.Layout{Order: lists[1], Tracks: lists[2]}, 0
}

// isOutputs reports whether a line is the first one of the last three.
func isOutputs(line string) bool {
	first, _, _ := strings.Cut(line, " ")
	return first == outputsWord
}

// readNamed returns the numbers behind the name in a line, or ErrSyntax.
func readNamed(line, name string) ([]int, api.Errno) {
	w := words{strings.Split(line, " ")}
	if w.next() != name {
		return nil, api.ErrSyntax
	}
	return limits.All(w.left, limits.ReadInteger)
}

// words are the words of a line that have not been taken.
type words struct {
	left []string
}

// next takes a word; where none is left, it is the empty one, which no line has.
func (w *words) next() string {
	if len(w.left) == 0 {
		return ""
	}
	word := w.left[0]
	w.left = w.left[1:]
	return word
}

// readUnit returns the unit of a line, or ErrSyntax.
func readUnit(line string) (api.Unit, api.Errno) {
	w := words{strings.Split(line, " ")}
	u, e := readDrive(w.next)
	if e != api.OK {
		return api.Unit{}, e
	}
	feeds, curve := w.left, []string{}
	if hasCurve(u.Kind) {
		at := slices.Index(w.left, curveWord)
		if at < 0 {
			return api.Unit{}, api.ErrSyntax
		}
		feeds, curve = w.left[:at], w.left[at+1:]
	}
	if u.Feeds, e = limits.All(feeds, readFeed); e != api.OK {
		return api.Unit{}, e
	}
	if u.Curve, e = limits.All(curve, readRat); e != api.OK {
		return api.Unit{}, e
	}
	return u, api.OK
}

// readDrive returns a unit without feeds of the words in front of these, or ErrSyntax.
func readDrive(next func() string) (api.Unit, api.Errno) {
	kind := next()
	isKind := kind == "integrator" || kind == "adder" || hasCurve(kind)
	out, outError := limits.ReadInteger(next())
	isStart := next() == startWord
	start, startError := readRat(next())
	isFeeds := next() == feedsWord
	if !isKind || outError != api.OK || !isStart || startError != api.OK || !isFeeds {
		return api.Unit{}, api.ErrSyntax
	}
	return api.Unit{Kind: kind, Out: out, Start: start}, api.OK
}

// readFeed returns the feed of a word, or ErrSyntax.
func readFeed(word string) (api.Feed, api.Errno) {
	before, behind, _ := strings.Cut(word, ratioSign)
	shaft, e := limits.ReadInteger(before)
	if e != api.OK {
		return api.Feed{}, e
	}
	ratio, e := readRat(behind)
	return api.Feed{Shaft: shaft, Ratio: ratio}, e
}

// readRat returns the number of a word, or ErrSyntax.
func readRat(word string) (api.Rat, api.Errno) {
	if exact.Check(api.Rat(word)) != api.OK {
		return "", api.ErrSyntax
	}
	return api.Rat(word), api.OK
}

// Instructions returns the instructions for wiring.
func Instructions(p api.Plan, l api.Layout) (string, api.Errno) {
	r, e := readPlan(p, l)
	if e != api.OK {
		return "", e
	}
	var list []int
	for net := range r.nets {
		list = append(list, net)
	}
	slices.SortFunc(list, func(a, b int) int {
		return cmp.Or(l.Tracks[a]-l.Tracks[b], r.extents[a][0]-r.extents[b][0])
	})
	var lines [][]string
	for _, net := range list {
		lines = append(lines, r.instruction(net, l.Tracks[net]))
	}
	return write(lines...), api.OK
}

// instruction returns the words that say where a net is wired.
func (r *row) instruction(net, track int) []string {
	var positions []int
	for _, column := range r.nets[net].Columns {
		positions = append(positions, r.positions[column])
	}
	slices.Sort(positions)
	return slices.Concat(named("track", track), named("shaft", r.nets[net].Shaft),
		named("from", r.extents[net][0]), named("to", r.extents[net][1]), named("taps", positions...))
}
