package equation

import (
	"math/rand"
	"strings"
	"testing"

	"integraph/api"
)

// The tests of this file are those of P2.4 and P2.5, and of P2.6 for problems.

// texts returns the printed texts of expressions.
func texts(t *testing.T, list []api.Expr) []string {
	t.Helper()
	var texts []string
	for _, e := range list {
		text, err := Print(e)
		expectError(t, "Print", err, api.OK)
		texts = append(texts, text)
	}
	return texts
}

func TestVariables(t *testing.T) {
	names, values, err := Variables(swingProblem())
	expectList(t, "Variables", names, err, []string{"y", "y'"}, api.OK)
	expectList(t, "the starts", values, err, []api.Rat{"1", "0"}, api.OK)
	names, values, err = Variables(problem(t, rich))
	expectList(t, "Variables", names, err, []string{"x", "x'", "u", "z", "z'", "z''"}, api.OK)
	expectList(t, "the starts", values, err, []api.Rat{"3/4", "-1", "0", "-1/2", "-1", "2"}, api.OK)
}

func TestFirstOrder(t *testing.T) {
	rights, err := FirstOrder(swingProblem())
	expectList(t, "FirstOrder", texts(t, rights), err, []string{"y'", "-k * y"}, api.OK)
	rights, err = FirstOrder(problem(t, rich))
	expectList(t, "FirstOrder", texts(t, rights), err, []string{"x'", "a * x' + sin(t) / b", "x - c * z''", "z'", "z''", "-u * z + exp(x')"}, api.OK)
}

func TestInline(t *testing.T) {
	got, err := Inline(swingProblem())
	want := swingProblem()
	want.Params = nil
	want.Equations[0].Right = call("*", negative(literal("1/4")), name("y"))
	expectProblem(t, "Inline of the example", got, err, want, api.OK)
	got, err = Inline(problem(t, rich))
	expectError(t, "Inline", err, api.OK)
	text, err := PrintProblem(got)
	wantText := "problem end\n" +
		"x'' = -1/2 * x' + sin(t) / 3/4\nu' = x - -1/4 * z''\nz''' = -u * z + exp(x')\n" +
		"start x = 3/4\nstart x' = -1\nstart u = 0\nstart z = -1/2\nstart z' = -1\nstart z'' = 2\n" +
		"end 7/2\n"
	expect(t, "Inline", text, err, wantText, api.OK)
	again, err := Inline(got)
	expectProblem(t, "Inline twice", again, err, got, api.OK)
	got, err = Inline(problem(t, "problem p\nparam k = -2\ny' = k^2 * -k\nstart y = 1\nend 1\n"))
	expectError(t, "Inline", err, api.OK)
	expectExpr(t, "a negative parameter", got.Equations[0].Right, api.OK, call("*", power(negative(whole(2)), 2), negative(negative(whole(2)))), api.OK)
}

func TestInlineErrors(t *testing.T) {
	// withK returns a problem with two equations, of which the second one has this right side.
	withK := func(value, right api.Expr) api.Problem {
		p := swingProblem()
		p.Params[0].Value = value
		p.Equations = append(p.Equations, api.Equation{Name: "x", Order: 1, Right: right})
		p.Starts = append(p.Starts, given("x", 0, whole(0)))
		return p
	}
	k := func(e api.Expr) api.Expr {
		got, err := Substitute(e, "x", name("k"))
		expectError(t, "Substitute", err, api.OK)
		return got
	}
	minus := negative(whole(1))
	for _, row := range []struct {
		what string
		p    api.Problem
		want api.Errno
	}{
		{"199 with a positive value", withK(whole(1), k(treeOf(199))), api.OK}, {"199 with a negative value", withK(minus, k(treeOf(199))), api.ErrMany}, {"133 with a negative value", withK(minus, k(treeOf(133))), api.OK}, {"135 with a negative value", withK(minus, k(treeOf(135))), api.ErrMany},
		{"a depth of 30", withK(minus, k(chainOf(30))), api.ErrLimit}, {"a depth of 29", withK(minus, k(chainOf(29))), api.OK}, {"a depth of 30 with 0", withK(whole(0), k(chainOf(30))), api.OK},
	} {
		got, err := Inline(row.p)
		expectError(t, "Inline: "+row.what, err, row.want)
		if err != api.OK && !sameProblem(got, api.Problem{}) {
			t.Errorf("Inline: %s: a problem beside the error", row.what)
		}
	}
	p := withK(minus, k(treeOf(199)))
	p.Equations[0].Right = k(chainOf(30))
	got, err := Inline(p)
	expectProblem(t, "Inline: the first right side", got, err, api.Problem{}, api.ErrLimit)
	p.Equations[0].Right, p.Equations[1].Right = p.Equations[1].Right, p.Equations[0].Right
	got, err = Inline(p)
	expectProblem(t, "Inline: the first right side", got, err, api.Problem{}, api.ErrMany)
}

func TestRename(t *testing.T) {
	for _, row := range []struct{ from, to, want string }{
		{"x", "q", strings.NewReplacer("x'", "q'", " x ", " q ").Replace(rich)},
		{"z", "end_", strings.NewReplacer("z'", "end_'", " z ", " end_ ").Replace(rich)},
		{"u", "T", strings.NewReplacer("u'", "T'", "u ", "T ").Replace(rich)},
		{"b", "x1", strings.NewReplacer(" b", " x1", "(b", "(x1").Replace(rich)},
		{"c", "swing", strings.NewReplacer(" c ", " swing ").Replace(rich)},
	} {
		got, err := Rename(problem(t, rich), row.from, row.to)
		expectProblem(t, "Rename of "+row.from, got, err, problem(t, row.want), api.OK)
		text, err := PrintProblem(got)
		expect(t, "Rename of "+row.from, text, err, row.want, api.OK)
	}
	got, err := Rename(problem(t, rich), "a", "b2")
	expectError(t, "Rename of a", err, api.OK)
	if text, _ := PrintProblem(got); !strings.Contains(text, "param b = b2^2 + abs(b2)") || !strings.Contains(text, "start z' = floor(b2)") {
		t.Errorf("Rename of a: %s", text)
	}
	for _, row := range []struct {
		from, to string
		want     api.Errno
	}{
		{"", "", api.ErrUnknown}, {"t", "q", api.ErrUnknown}, {"q", "t", api.ErrUnknown}, {"x'", "q", api.ErrUnknown}, {"end", "q", api.ErrUnknown}, {"sin", "q", api.ErrUnknown},
		{"x", "", api.ErrName}, {"x", "t", api.ErrName}, {"a", "exp", api.ErrName}, {"x", "q'", api.ErrName}, {"x", "param", api.ErrName}, {"x", digits("q", 25), api.ErrName}, {"x", digits("q", 24), api.OK},
		{"x", "u", api.ErrTwice}, {"x", "a", api.ErrTwice}, {"c", "b", api.ErrTwice}, {"c", "z", api.ErrTwice}, {"x", "x", api.ErrTwice}, {"c", "c", api.ErrTwice},
	} {
		got, err := Rename(problem(t, rich), row.from, row.to)
		expectError(t, "Rename of "+row.from+" to "+row.to, err, row.want)
		if err != api.OK && !sameProblem(got, api.Problem{}) {
			t.Errorf("Rename of %s: a problem beside the error", row.from)
		}
	}
}

// web has variables that depend on others: a on b and c, b on c, c on none, d on e, e on d, f on itself, g on a.
const web = "problem web\nparam p = 2\n" +
	"g' = a + t\ne' = d'\na'' = b * a'^0 * c\nf' = sin(f)\nb' = c' - p\nd''' = e\nc'' = p * t\n" +
	"start g = p\nstart e = 0\nstart a = 1\nstart a' = 2\nstart f = 3\nstart b = 4\nstart d = 5\nstart d' = 6\nstart d'' = 7\nstart c = 8\nstart c' = 9\nend 1\n"

func TestDepends(t *testing.T) {
	p := problem(t, web)
	for name, want := range map[string]string{"a": "a b c", "b": "c", "c": "", "d": "e d", "e": "e d", "f": "f", "g": "a b c"} {
		got, err := Depends(p, name)
		expectList(t, "Depends of "+name, got, err, strings.Fields(want), api.OK)
	}
	for _, name := range []string{"", "p", "t", "a'", "x", "web"} {
		got, err := Depends(p, name)
		expectList(t, "Depends of "+name, got, err, nil, api.ErrUnknown)
	}
}

func TestPart(t *testing.T) {
	p := problem(t, web)
	lines := strings.SplitAfter(web, "\n")
	for names, variables := range map[string]string{"c": "c", "b": "b c", "a": "a b c", "g": "g a b c", "f": "f", "e": "e d", "d": "e d", "f c": "f c", "c f": "f c", "d b": "e b d c", "g e f": "g e a f b d c", "a c": "a b c", "g e a f b d c": "g e a f b d c"} {
		want := lines[0] + lines[1]
		for _, line := range lines[2 : len(lines)-2] {
			variable, _, _ := strings.Cut(strings.TrimPrefix(line, "start "), " ")
			if strings.Contains(variables, strings.TrimRight(variable, "'")) {
				want += line
			}
		}
		got, err := Part(p, strings.Fields(names))
		expectProblem(t, "Part of "+names, got, err, problem(t, want+"end 1\n"), api.OK)
		if list := strings.Fields(variables); len(got.Equations) != len(list) {
			t.Errorf("Part of %s: %d equations", names, len(got.Equations))
		}
	}
	for _, row := range []struct {
		names []string
		want  api.Errno
	}{
		{nil, api.ErrEmpty}, {[]string{}, api.ErrEmpty}, {[]string{""}, api.ErrUnknown}, {[]string{"p"}, api.ErrUnknown}, {[]string{"a", "a'"}, api.ErrUnknown}, {[]string{"a", "t", "a"}, api.ErrUnknown}, {[]string{"a", "b", "a", "t"}, api.ErrTwice}, {[]string{"c", "c"}, api.ErrTwice},
	} {
		got, err := Part(p, row.names)
		expectProblem(t, "Part of "+strings.Join(row.names, " "), got, err, api.Problem{}, row.want)
	}
	expectProblem(t, "the problem", p, api.OK, problem(t, web), api.OK)
}

// TestInlineKeepsValues compares the values of right sides with and without parameters.
func TestInlineKeepsValues(t *testing.T) {
	r := rand.New(rand.NewSource(6))
	ops := []string{"+", "-", "*", "/", "^", "sin", "cos", "exp", "log", "sqrt"}
	compared := 0
	for range 3000 {
		p := problem(t, "problem p\nparam a = -2/3\nparam b = a + 1\nx' = 1\nstart x = 0\nend 1\n")
		p.Equations[0].Right = someExpr(r, 3, []string{"a", "b", "x", "t"}, ops)
		inlined, err := Inline(p)
		expectError(t, "Inline", err, api.OK)
		if used, _ := Names(inlined.Equations[0].Right); strings.ContainsAny(strings.Join(used, ""), "ab") {
			t.Errorf("Inline: the names %v", used)
		}
		want, wantError := Value(p.Equations[0].Right, []string{"a", "b", "x", "t"}, []api.Rat{"-2/3", "1/3", "9/4", "0"})
		got, err := Value(inlined.Equations[0].Right, []string{"x", "t"}, []api.Rat{"9/4", "0"})
		expect(t, "the value of an inlined right side", got, err, want, wantError)
		if err == api.OK {
			compared++
		}
	}
	if compared < 500 {
		t.Errorf("only %d values are compared", compared)
	}
}

// TestRenameChangesNamesAlone renames there and back, and compares values and texts.
func TestRenameChangesNamesAlone(t *testing.T) {
	for _, s := range []string{swing, rich, web} {
		p := problem(t, s)
		var all []string
		for _, param := range p.Params {
			all = append(all, param.Name)
		}
		for _, equation := range p.Equations {
			all = append(all, equation.Name)
		}
		_, starts, _ := Variables(p)
		for _, name := range all {
			renamed, err := Rename(p, name, "q")
			expectError(t, "Rename", err, api.OK)
			expectError(t, "CheckProblem of a renamed one", CheckProblem(renamed), api.OK)
			_, values, err := Variables(renamed)
			expectList(t, "the starts of a renamed one", values, err, starts, api.OK)
			back, err := Rename(renamed, "q", name)
			expectProblem(t, "Rename there and back", back, err, p, api.OK)
		}
	}
}
