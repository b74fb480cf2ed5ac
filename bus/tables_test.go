package bus

import (
	"fmt"
	"math/big"
	"math/rand"
	"regexp"
	"slices"
	"strings"
	"testing"

	"integraph/api"
)

const circleTable = `shafts 3
integrator 1 start 1 feeds 2*1 0*1
integrator 2 start 0 feeds 1*-1 0*1
outputs 1 2
order 0 1 2
tracks 0 1 2
`

const mixedTable = `shafts 5
table 4 start 9/4 feeds 3*1/2 curve 0 0 1
adder 3 start 3 feeds 1*-2/3 0*-5/2 1*1
integrator 1 start 1 feeds 4*-2/5 0*3/7
table 2 start -7/2 feeds 0*4 curve -7/2 2
outputs 3 1
order 2 0 4 1 3
tracks 0 63 7 10
`

// mixedLayout is the layout of mixedTable.
func mixedLayout() api.Layout {
	return api.Layout{Order: []int{2, 0, 4, 1, 3}, Tracks: []int{0, 63, 7, 10}}
}

// expectRead reports the results of ReadTable that are not those of a table without errors.
func expectRead(t *testing.T, s string, p api.Plan, l api.Layout) {
	t.Helper()
	q, m, line, err := ReadTable(s)
	if !samePlan(q, p) || line != 0 || err != api.OK {
		t.Errorf("ReadTable: got %v, the line %d and the error %d, want %v", q, line, err, p)
	}
	expectLayout(t, "ReadTable", m, err, l, api.OK)
}

// expectUnread reports the results of ReadTable that are not those of a wrong table.
func expectUnread(t *testing.T, what, s string, line int, want api.Errno) {
	t.Helper()
	p, l, at, err := ReadTable(s)
	expect(t, what, at, err, line, want)
	if !samePlan(p, api.Plan{}) || !sameLayout(l, api.Layout{}) {
		t.Errorf("%s: results beside an error: %v, %v", what, p, l)
	}
}

func TestTable(t *testing.T) {
	for _, row := range []struct {
		p    api.Plan
		l    api.Layout
		want string
	}{
		{circle(), api.Layout{Order: []int{0, 1, 2}, Tracks: []int{0, 1, 2}}, circleTable},
		{mixed(), mixedLayout(), mixedTable},
		{api.Plan{Shafts: 1}, api.Layout{Order: []int{0}}, "shafts 1\noutputs\norder 0\ntracks\n"},
		{lineUp(nil, "adder 1 5 0*1 0*1"), api.Layout{Order: []int{1, 0}, Tracks: []int{5}}, "shafts 2\nadder 1 start 5 feeds 0*1 0*1\noutputs\norder 1 0\ntracks 5\n"},
	} {
		s, err := Table(row.p, row.l)
		expect(t, "Table", s, err, row.want, api.OK)
		expectRead(t, row.want, row.p, row.l)
	}
}

// plainTable returns the wiring table of a plan.
func plainTable(p api.Plan, l api.Layout) string {
	list := func(name string, numbers []int) string {
		return strings.TrimRight(name+" "+strings.Trim(fmt.Sprint(numbers), "[]"), " ") + "\n"
	}
	s := fmt.Sprintf("shafts %d\n", p.Shafts)
	for _, u := range p.Units {
		s += fmt.Sprintf("%s %d start %s feeds", u.Kind, u.Out, u.Start)
		for _, f := range u.Feeds {
			s += fmt.Sprintf(" %d*%s", f.Shaft, f.Ratio)
		}
		if u.Kind == "table" {
			s += " curve"
		}
		for _, a := range u.Curve {
			s += " " + string(a)
		}
		s += "\n"
	}
	return s + list("outputs", p.Outputs) + list("order", l.Order) + list("tracks", l.Tracks)
}

// longPlan returns a plan of adders with long numbers and few nets, whose wiring table has so many bytes.
func longPlan(size int) (api.Plan, api.Layout) {
	great := "-1" + digits("0", 599) + "/" + digits("9", 600)
	p, l := api.Plan{Shafts: 97}, api.Layout{Order: count(97), Tracks: []int{0}}
	for i := range 96 {
		p.Units = append(p.Units, api.Unit{Kind: "adder", Feeds: slices.Repeat([]api.Feed{{Shaft: 0, Ratio: great}}, 8), Out: i + 1, Start: "1"})
	}
	left := size - len(plainTable(p, l))
	for i := range p.Units {
		n := min(left, 599)
		if p.Units[i].Start += digits("0", n); left >= len(great) {
			p.Units[i].Start, n = great, len(great)-1
		}
		left -= n
	}
	return p, l
}

func TestLongTables(t *testing.T) {
	p, l := longPlan(api.MaxLog)
	s, err := Table(p, l)
	expect(t, "the size of a table", len(s), err, api.MaxLog, api.OK)
	if s != plainTable(p, l) {
		t.Error("a long table is wrong")
	}
	expectRead(t, s, p, l)
	expectUnread(t, "a table that is too long", s+"\n", 0, api.ErrLong)
	expectUnread(t, "a text that is too long and torn", strings.Repeat("x", api.MaxLog+1), 0, api.ErrLong)
	expectUnread(t, "a long text that is torn", strings.Repeat("x", api.MaxLog), 0, api.ErrTorn)
	expectUnread(t, "a long text of empty lines", strings.Repeat("\n", api.MaxLog), 1, api.ErrSyntax)
	p, l = longPlan(api.MaxLog + 1)
	if n := len(plainTable(p, l)); n != api.MaxLog+1 {
		t.Fatalf("the table has %d bytes", n)
	}
	s, err = Table(p, l)
	expect(t, "a plan whose table is too long", s, err, "", api.ErrLong)
	l.Order = nil
	_, err = Table(p, l)
	expectError(t, "a wrong layout of such a plan", err, api.ErrShape)
}

func TestTableOfAny(t *testing.T) {
	r := rand.New(rand.NewSource(10))
	for range 300 {
		p := somePlan(t, r, r.Intn(9))
		l := someLayout(t, r, p)
		s, err := Table(p, l)
		expect(t, "Table", s, err, plainTable(p, l), api.OK)
		expectRead(t, s, p, l)
	}
}

// TestWrongLines puts lines that are wrong, and other ones that are right, in the place of a line of a table.
func TestWrongLines(t *testing.T) {
	lines := strings.Split(mixedTable, "\n")
	with := func(number int, line string) string {
		changed := slices.Clone(lines)
		changed[number-1] = line
		return strings.Join(changed, "\n")
	}
	long := string(digits("9", 601))
	for number, list := range map[int][]string{
		1: {"", "shafts", "shafts ", "shafts  5", " shafts 5", "shafts 5 ", "shafts 5 5", "Shafts 5", "shaft 5", "shafts 05", "shafts -5", "shafts +5", "shafts 5/2", "shafts 1000000000", "shafts x", "shafts\t5", "shafts 5\r", "outputs 5", "shafts \u0665"},
		2: {
			"", " ", "table", "table 4", "table 4 start", "table 4 start 9/4", "table 4 start 9/4 feeds", "table 4 start 9/4 feeds 3*1/2", "wheel 4 start 9/4 feeds 3*1/2 curve 0 0 1", "Table 4 start 9/4 feeds 3*1/2 curve 0 0 1",
			" table 4 start 9/4 feeds 3*1/2 curve 0 0 1", "table 4 start 9/4 feeds 3*1/2 curve 0 0 1 ", "table 4 start 9/4 feeds 3*1/2 curve ", "table 4 start 9/4 feeds  curve 0 0 1", "table 4 start 9/4 feeds 3*1/2  curve 0 0 1", "table 4 start  9/4 feeds 3*1/2 curve 0 0 1", "table  4 start 9/4 feeds 3*1/2 curve 0 0 1",
			"table 04 start 9/4 feeds 3*1/2 curve 0 0 1", "table -4 start 9/4 feeds 3*1/2 curve 0 0 1", "table 1000000000 start 9/4 feeds 3*1/2 curve 0 0 1", "table 4 begin 9/4 feeds 3*1/2 curve 0 0 1", "table 4 start 9/3 feeds 3*1/2 curve 0 0 1", "table 4 start " + long + " feeds 3*1/2 curve 0 0 1",
			"table 4 start 9/4 feed 3*1/2 curve 0 0 1", "table 4 start 9/4 feeds 3 * 1/2 curve 0 0 1", "table 4 start 9/4 feeds 3*2/4 curve 0 0 1", "table 4 start 9/4 feeds 3* curve 0 0 1", "table 4 start 9/4 feeds *1/2 curve 0 0 1", "table 4 start 9/4 feeds 3 curve 0 0 1", "table 4 start 9/4 feeds -3*1/2 curve 0 0 1", "table 4 start 9/4 feeds 03*1/2 curve 0 0 1",
			"table 4 start 9/4 feeds 3*1/2*1 curve 0 0 1", "table 4 start 9/4 feeds 3*1/2 curve 0 00 1", "table 4 start 9/4 feeds 3*1/2 curve 0 0 1 curve", "table 4 start 9/4 feeds 3*1/2 curve curve 0 0 1", "table 4 start 9/4 feeds 3*1/2 0 0 1", "table 4 start 9/4 feeds 1000000000*1/2 curve 0 0 1", "table 4 feeds 3*1/2 start 9/4 curve 0 0 1", "table 4 start 9/4 curve 0 0 1 feeds 3*1/2",
			"order 2 0 4 1 3", "tracks 0 63 7 10", "shafts 5", "adder 4 start 9/4 feeds 3*1/2 curve 0 0 1", "integrator 4 start 9/4 feeds 3*1/2 curve", "outputs ", "outputs x", "outputs 1 -2", "outputs  1", " outputs", "Outputs",
		},
		5: {"table 2 start -7/2 feeds 0*4 curve -7/2 2 0*4", "adder 2 start -7/2 feeds 0*" + long, "table 2 start -7/2 feeds 0*4 curve " + long},
		6: {"", "output 3 1", "outputs 3  1", "outputs 3 1 ", "outputs 3 01", "outputs 3 +1", "outputs 1000000000", "order 2 0 4 1 3", "\toutputs 3 1"},
		7: {"", "orders 2 0 4 1 3", "order 2 0 4 1 3 ", "order 2 0 4 1 03", "order 2,0", "outputs 3 1", "tracks 0 63 7 10", "table 2 start -7/2 feeds 0*4 curve -7/2 2"},
		8: {"", "track 0 63 7 10", "tracks 0 63 7 10 ", "tracks 0 63 7 1e1", "order 2 0 4 1 3", "tracks 0 63 7 1000000000"},
	} {
		for _, line := range list {
			wanted := number
			if line == "outputs" {
				wanted++
			}
			expectUnread(t, "the line "+line, with(number, line), wanted, api.ErrSyntax)
		}
	}
	for number, list := range map[int]map[string]api.Errno{ // what has its form, but is no plan or layout
		1: {"shafts 0": api.ErrRange, "shafts 6": api.ErrDriver, "shafts 999999999": api.ErrRange},
		2: {
			"table 4 start 9/4 feeds curve 0 0 1": api.ErrShape, "table 4 start 9/4 feeds 3*1/2 curve": api.ErrShape, "table 4 start 9/4 feeds 3*1/2 3*1 curve 0 0 1": api.ErrShape, "adder 4 start 9/4 feeds": api.ErrShape, "integrator 4 start 9/4 feeds 3*1": api.ErrShape,
			"table 4 start 9/4 feeds 999999999*1/2 curve 0 0 1": api.ErrUnknown, "table 4 start 9/4 feeds 3*0 curve 0 0 1": api.ErrZero, "table 999999999 start 9/4 feeds 3*1/2 curve 0 0 1": api.ErrUnknown, "table 4 start 9/4 feeds 3*1/2 curve 0 0 2": api.ErrConflict, "table 3 start 9/4 feeds 3*1/2 curve 0 0 1": api.ErrDriver, "adder 4 start 9/4 feeds 3*1/2": api.OK,
		},
		6: {"outputs": api.OK, "outputs 5": api.ErrUnknown, "outputs 999999999": api.ErrUnknown, "outputs 2 3 1": api.ErrShape},
		7: {"order": api.ErrShape, "order 2 0 4 1": api.ErrShape, "order 2 0 4 1 5": api.ErrUnknown, "order 2 0 4 1 2": api.ErrTwice, "order 2 0 4 1 999999999": api.ErrUnknown},
		8: {"tracks": api.ErrShape, "tracks 0 63 7": api.ErrShape, "tracks 0 63 7 64": api.ErrRange, "tracks 0 63 7 999999999": api.ErrRange, "tracks 0 63 7 0": api.ErrConflict},
	} {
		for line, want := range list {
			_, _, at, err := ReadTable(with(number, line))
			expect(t, "the line "+line, at, err, 0, want)
		}
	}
}

func TestMissingLines(t *testing.T) {
	lines := strings.SplitAfter(mixedTable, "\n")
	lines = lines[:len(lines)-1]
	expectUnread(t, "no text", "", 0, api.ErrTorn)
	expectUnread(t, "an empty line", "\n", 1, api.ErrSyntax)
	for n := 1; n < len(lines); n++ {
		s := strings.Join(lines[:n], "")
		expectUnread(t, "a table that ends early", s, n+1, api.ErrSyntax)
		expectUnread(t, "a table that is torn", s[:len(s)-1], 0, api.ErrTorn)
	}
	expectUnread(t, "a table without its last line feed", mixedTable[:len(mixedTable)-1], 0, api.ErrTorn)
	for _, more := range []string{"\n", "tracks 0 63 7 10\n", "x\ny\n", "outputs\norder\ntracks\n"} {
		expectUnread(t, "a table with more lines", mixedTable+more, len(lines)+1, api.ErrSyntax)
	}
	expectUnread(t, "more lines behind a wrong one", strings.Replace(mixedTable, "order 2", "order -2", 1)+"x\n", 7, api.ErrSyntax)
	expectUnread(t, "an empty line in front", "\n"+mixedTable, 1, api.ErrSyntax)
	expectUnread(t, "an empty line between units", lines[0]+lines[1]+"\n"+strings.Join(lines[2:], ""), 3, api.ErrSyntax)
	expectUnread(t, "a second line of shafts", lines[0]+mixedTable, 2, api.ErrSyntax)
	expectUnread(t, "a table without units, shafts and tracks", "shafts 0\noutputs\norder\ntracks\n", 0, api.ErrRange)
	expectUnread(t, "nets that are too many", plainTable(chain(65), api.Layout{}), 0, api.ErrMany)
	expectUnread(t, "a wrong plan in front of nets that are too many", strings.Replace(plainTable(chain(65), api.Layout{}), "64*1", "64*0", 1), 0, api.ErrZero)
}

// The forms of words and lines.
const (
	integerForm = `(0|[1-9][0-9]{0,8})`
	ratForm     = `(0|-?[1-9][0-9]*(/[1-9][0-9]*)?)`
	headForm    = ` ` + integerForm + ` start ` + ratForm + ` feeds( ` + integerForm + `\*` + ratForm + `)*`
	curveForm   = ` curve( ` + ratForm + `)*`
)

var (
	unitForm  = regexp.MustCompile(`^((integrator|adder)` + headForm + `|table` + headForm + curveForm + `)$`)
	fractions = regexp.MustCompile(`[0-9]+/[0-9]+`)
)

// hasForm reports whether a line matches a form, and its numbers are in lowest terms.
func hasForm(line string, form *regexp.Regexp) bool {
	return form.MatchString(line) && !slices.ContainsFunc(fractions.FindAllString(line, -1), func(a string) bool {
		x, _ := new(big.Rat).SetString(a)
		return x.RatString() != a
	})
}

// wrongLine returns the number of the first line of a table that does not have its form, or 0.
func wrongLine(lines []string) int {
	units := slices.IndexFunc(lines, func(line string) bool { return regexp.MustCompile(`^outputs( |$)`).MatchString(line) })
	if units < 0 {
		units = len(lines)
	}
	for i := range max(len(lines), units+3) {
		isRight := i < len(lines) && (i == 0 || i < units+3)
		switch {
		case !isRight:
		case i == 0:
			isRight = hasForm(lines[i], regexp.MustCompile(`^shafts `+integerForm+`$`))
		case i < units:
			isRight = hasForm(lines[i], unitForm)
		default:
			name := []string{"outputs", "order", "tracks"}[i-units]
			isRight = hasForm(lines[i], regexp.MustCompile(`^`+name+`( `+integerForm+`)*$`))
		}
		if !isRight {
			return i + 1
		}
	}
	return 0
}

// TestReadAny changes tables in a few places, and compares the lines of their errors with the forms of lines.
func TestReadAny(t *testing.T) {
	r := rand.New(rand.NewSource(11))
	pieces := []string{" ", "\n", "0", "1", "12", "-", "/", "*", "/2", "3*1", " 3*1/2", " 4", "outputs", "curve", " curve", "feeds", "start", "adder", "table", "integrator", "order", "tracks", "shafts", "x", "\x00", "\t", "+", "1000000000"}
	found := map[api.Errno]int{}
	for range 20000 {
		p := lineUp([]int{1}, "adder 1 5 0*3 0*-1", "table 2 1/2 0*1/3 : 1/2 3")
		if r.Intn(2) == 0 {
			p = circle()
		}
		nets, columns, _ := Nets(p)
		s := plainTable(p, api.Layout{Order: r.Perm(columns), Tracks: r.Perm(9)[:len(nets)]})
		for range 1 + r.Intn(2) {
			i := r.Intn(len(s))
			j := i + r.Intn(min(len(s)-i, 3)+1)
			lines := strings.SplitAfter(s, "\n")
			k := r.Intn(len(lines))
			switch r.Intn(4) {
			case 0:
				s = s[:i] + s[j:]
			case 1:
				s = s[:i] + pieces[r.Intn(len(pieces))] + s[i:]
			case 2:
				s = s[:i] + pieces[r.Intn(len(pieces))] + s[j:]
			case 3:
				s = strings.Join(slices.Insert(lines, k, lines[r.Intn(len(lines))]), "")
			}
			if s == "" {
				s = "\n"
			}
		}
		q, l, line, err := ReadTable(s)
		found[err]++
		if !strings.HasSuffix(s, "\n") {
			expect(t, s, line, err, 0, api.ErrTorn)
			continue
		}
		if wrong := wrongLine(strings.Split(s[:len(s)-1], "\n")); wrong > 0 {
			expect(t, s, line, err, wrong, api.ErrSyntax)
			continue
		}
		if err == api.ErrSyntax || err == api.ErrTorn || err == api.ErrLong || line != 0 {
			t.Errorf("%s: got the line %d and the error %d, but its lines have their forms", s, line, err)
		}
		if err == api.OK && plainTable(q, l) != s {
			t.Errorf("%s is read as %v and %v", s, q, l)
		}
	}
	if found[api.OK] < 100 || found[api.ErrSyntax] < 100 || found[api.ErrTorn] < 100 || len(found) < 8 {
		t.Errorf("the tables are not of all kinds: %v", found)
	}
}

func TestInstructions(t *testing.T) {
	for _, row := range []struct {
		p    api.Plan
		l    api.Layout
		want string
	}{
		{circle(), api.Layout{Order: []int{0, 1, 2}, Tracks: []int{0, 1, 2}}, "track 0 shaft 0 from 0 to 2 taps 0 1 2\ntrack 1 shaft 1 from 0 to 2 taps 0 1 2\ntrack 2 shaft 2 from 0 to 2 taps 0 1 2\n"},
		{circle(), api.Layout{Order: []int{2, 0, 1}, Tracks: []int{11, 63, 2}}, "track 2 shaft 2 from 0 to 2 taps 0 1 2\ntrack 11 shaft 0 from 0 to 2 taps 0 1 2\ntrack 63 shaft 1 from 0 to 2 taps 0 1 2\n"},
		{mixed(), mixedLayout(), "track 0 shaft 0 from 0 to 4 taps 0 2 3 4\ntrack 7 shaft 3 from 1 to 3 taps 1 2 3\ntrack 10 shaft 4 from 0 to 1 taps 0 1\ntrack 63 shaft 1 from 0 to 3 taps 0 2 3\n"},
		{chain(4), api.Layout{Order: []int{3, 2, 1, 0, 4}, Tracks: []int{3, 4, 3, 4}}, "track 3 shaft 2 from 1 to 2 taps 1 2\ntrack 3 shaft 0 from 3 to 4 taps 3 4\ntrack 4 shaft 3 from 0 to 1 taps 0 1\ntrack 4 shaft 1 from 2 to 3 taps 2 3\n"},
		{api.Plan{Shafts: 1}, api.Layout{Order: []int{0}}, ""},
	} {
		s, err := Instructions(row.p, row.l)
		expect(t, "Instructions", s, err, row.want, api.OK)
	}
}

// TestInstructionsOfAny looks for the nets of each track, position by position.
func TestInstructionsOfAny(t *testing.T) {
	r := rand.New(rand.NewSource(12))
	for range 200 {
		p := somePlan(t, r, r.Intn(9))
		l := someLayout(t, r, p)
		nets, columns, _ := Nets(p)
		want := ""
		for track := range api.MaxTracks {
			for least := range columns {
				for i, net := range nets {
					var taps []int
					for position, column := range l.Order {
						if slices.Contains(net.Columns, column) {
							taps = append(taps, position)
						}
					}
					if l.Tracks[i] == track && taps[0] == least {
						want += fmt.Sprintf("track %d shaft %d from %d to %d taps %s\n", track, net.Shaft, least, taps[len(taps)-1], strings.Trim(fmt.Sprint(taps), "[]"))
					}
				}
			}
		}
		s, err := Instructions(p, l)
		expect(t, "Instructions", s, err, want, api.OK)
	}
}
