package equation

import (
	"math/rand"
	"slices"
	"strings"
	"testing"

	"integraph/api"
)

// The tests of this file are those of Print and Read in P2.1, and of P2.6 for texts.

func TestReadTrees(t *testing.T) {
	x, y, two := name("x"), name("y"), whole(2)
	for _, row := range []struct {
		s    string
		want api.Expr
	}{
		{"-y^2 + sin(t) / 2", call("+", negative(power(y, 2)), call("/", call("sin", name("t")), two))},
		{"(y + 1) * 2", call("*", call("+", y, whole(1)), two)}, {"y * 1 + 2", call("+", call("*", y, whole(1)), two)},
		{"1/2 * y", call("*", literal("1/2"), y)}, {"1 / 2 * y", call("*", call("/", whole(1), two), y)},
		{"x - y - 2", call("-", call("-", x, y), two)}, {"x - (y - 2)", call("-", x, call("-", y, two))}, {"x / y * 2", call("*", call("/", x, y), two)}, {"x / (y * 2)", call("/", x, call("*", y, two))},
		{"x + y * 2", call("+", x, call("*", y, two))}, {"(x + y) + 2", call("+", call("+", x, y), two)}, {"x + (y + 2)", call("+", x, call("+", y, two))},
		{"--x", negative(negative(x))}, {"-x * y", call("*", negative(x), y)}, {"-(x * y)", negative(call("*", x, y))}, {"x * -y", call("*", x, negative(y))}, {"x - -y", call("-", x, negative(y))}, {"-x - y", call("-", negative(x), y)},
		{"(-x)^2", power(negative(x), 2)}, {"-x^2", negative(power(x, 2))}, {"(x^2)^3", power(power(x, 2), 3)}, {"x^-12", power(x, -12)}, {"x^0", power(x, 0)}, {"1/2^2", power(literal("1/2"), 2)}, {"sin(x)^2", power(call("sin", x), 2)},
		{"min(x, -y)", call("min", x, negative(y))}, {"max(x + 1, delay(x, y))", call("max", call("+", x, whole(1)), call("delay", x, y))}, {"x''", name("x''")}, {"x'''''''", name("x'''''''")}, {"1/2 / 3/4", call("/", literal("1/2"), literal("3/4"))},
	} {
		got, at, err := Read(row.s)
		expectExpr(t, "Read of "+row.s, got, err, row.want, api.OK)
		expect(t, "the place in "+row.s, at, err, 0, api.OK)
	}
}

// TestReadFree has texts that are not printed so.
func TestReadFree(t *testing.T) {
	for _, row := range [][2]string{
		{"(y * 1) + 2", "y * 1 + 2"}, {"  ( ( y ) )  ", "y"}, {"x+y", "x + y"}, {"x^ - 2", "x^-2"}, {"x ^2", "x^2"}, {"sin (x)", "sin(x)"}, {"min( x ,y )", "min(x, y)"}, {"1 /2", "1 / 2"}, {"1/ 2", "1 / 2"}, {"1/x", "1 / x"},
		{"1/2/3", "1/2 / 3"}, {"1/2/3/4", "1/2 / 3/4"}, {"- - x", "--x"}, {"-(x)^2", "-x^2"}, {"((x + y)) * (z)", "(x + y) * z"}, {"x'-y", "x' - y"}, {"2*x", "2 * x"}, {"-(-(x))", "--x"}, {"x-(-y)", "x - -y"}, {"exp((x))", "exp(x)"}, {"AZ09'*ZA-az_+za", "AZ09' * ZA - az_ + za"},
	} {
		got, err := Print(expr(t, row[0]))
		expect(t, "Print of Read of "+row[0], got, err, row[1], api.OK)
	}
}

func TestReadErrors(t *testing.T) {
	for _, row := range []struct {
		s    string
		at   int
		want api.Errno
	}{
		{"y +", 3, api.ErrSyntax}, {"y & 1", 2, api.ErrSyntax}, {"2/4", 0, api.ErrSyntax}, {"y^13", 2, api.ErrSyntax}, {"t'", 0, api.ErrSyntax},
		{"", 0, api.ErrSyntax}, {"   ", 3, api.ErrSyntax}, {"y +  ", 5, api.ErrSyntax}, {"x y", 2, api.ErrSyntax}, {"x (y)", 2, api.ErrSyntax}, {"2x", 1, api.ErrSyntax}, {"+x", 0, api.ErrSyntax}, {"x * / y", 4, api.ErrSyntax}, {"x * - / y", 6, api.ErrSyntax},
		{"()", 1, api.ErrSyntax}, {"(x", 2, api.ErrSyntax}, {"(x))", 3, api.ErrSyntax}, {"x)", 1, api.ErrSyntax}, {"(x, y)", 2, api.ErrSyntax}, {"x, y", 1, api.ErrSyntax},
		{"sin", 3, api.ErrSyntax}, {"sin x", 4, api.ErrSyntax}, {"sin()", 4, api.ErrSyntax}, {"sin(x, y)", 5, api.ErrSyntax}, {"min(x)", 5, api.ErrSyntax}, {"min(x, y, z)", 8, api.ErrSyntax}, {"min(x y)", 6, api.ErrSyntax}, {"min(, y)", 4, api.ErrSyntax}, {"sin'(x)", 0, api.ErrSyntax},
		{"1 + end", 4, api.ErrSyntax}, {"problem", 0, api.ErrSyntax}, {"x * start'", 4, api.ErrSyntax}, {digits("x", 25), 0, api.ErrSyntax}, {"1 - x''''''''", 4, api.ErrSyntax}, {"x'y", 2, api.ErrSyntax}, {"_x", 0, api.ErrSyntax}, {"'", 0, api.ErrSyntax}, {"1'", 1, api.ErrSyntax},
		{"007", 0, api.ErrSyntax}, {"x + 00", 4, api.ErrSyntax}, {"1/1", 0, api.ErrSyntax}, {"0/5", 0, api.ErrSyntax}, {"1/0", 0, api.ErrSyntax}, {"1/02", 0, api.ErrSyntax}, {"1.5", 1, api.ErrSyntax}, {".5", 0, api.ErrSyntax}, {"1e5", 1, api.ErrSyntax},
		{"x^", 2, api.ErrSyntax}, {"x^y", 2, api.ErrSyntax}, {"x^(2)", 2, api.ErrSyntax}, {"x^1/2", 2, api.ErrSyntax}, {"x^01", 2, api.ErrSyntax}, {"x^-", 3, api.ErrSyntax}, {"x^-0", 3, api.ErrSyntax}, {"x^-13", 3, api.ErrSyntax}, {"x^ - -1", 5, api.ErrSyntax}, {"x^2^3", 3, api.ErrSyntax}, {"-x^2^3", 4, api.ErrSyntax}, {"x^" + digits("9", 700), 2, api.ErrSyntax},
		{"x\ty", 1, api.ErrSyntax}, {"x +\n y", 3, api.ErrSyntax}, {"x = y", 2, api.ErrSyntax}, {"é", 0, api.ErrSyntax}, {"x * \xff", 4, api.ErrSyntax}, {"x\x00", 1, api.ErrSyntax}, {"#", 0, api.ErrSyntax}, {"[x]", 0, api.ErrSyntax},
		// The first error decides, whatever follows.
		{"x ) &", 2, api.ErrSyntax}, {"x + 2/4 + &", 4, api.ErrSyntax}, {"x + & 2/4", 4, api.ErrSyntax}, {"sin + 2/4", 4, api.ErrSyntax},
		// Errors of the expression come behind all those of the text.
		{strings.Repeat("-", 30) + "x", 0, api.ErrLimit}, {strings.Repeat("-", 30) + "x &", 32, api.ErrSyntax}, {strings.Repeat("-", 29) + "x", 0, api.OK}, {strings.Repeat("-", 4095) + "x", 0, api.ErrMany}, {"x" + strings.Repeat(" + x", 99), 0, api.ErrLimit}, {"x" + strings.Repeat(" + x", 100), 0, api.ErrMany},
		{digits("9", 600), 0, api.OK}, {digits("9", 601), 0, api.ErrLarge}, {"x + 1/" + digits("7", 601), 0, api.ErrLarge}, {"x + 2/" + digits("4", 601), 4, api.ErrSyntax}, {"x + 0" + digits("4", 601), 4, api.ErrSyntax}, {digits("9", 601) + " +", 603, api.ErrSyntax},
		// The length comes before all.
		{"x" + digits(" ", 4095), 0, api.OK}, {"x" + digits(" ", 4096), 0, api.ErrLong}, {"&" + digits(" ", 4096), 0, api.ErrLong}, {strings.Repeat("(", 4096), 4096, api.ErrSyntax}, {strings.Repeat("(", 2047) + "x" + strings.Repeat(")", 2047), 0, api.OK}, {strings.Repeat("sin(", 1024), 4096, api.ErrSyntax},
	} {
		what := "Read of " + row.s[:min(len(row.s), 40)]
		e, at, err := Read(row.s)
		expect(t, what, at, err, row.at, row.want)
		if err != api.OK && !sameExpr(e, api.Expr{}) {
			t.Errorf("%s: an expression beside the error", what)
		}
	}
}

func TestPrintErrors(t *testing.T) {
	long := literal(api.Rat(digits("9", 600)))
	e := call("-", call("*", call("+", long, long), call("*", long, long)), call("/", call("-", long, long), literal("7")))
	text, err := Print(e)
	want := "(a + a) * (a * a) - (a - a) / 7"
	expect(t, "Print of long numbers", text, err, strings.ReplaceAll(want, "a", string(long.Value)), api.OK)
	filler := &e.Args[1].Args[1].Value
	*filler += api.Rat(digits("7", 4096-len(text)))
	text, err = Print(e)
	expect(t, "the length of a text with 4096 bytes", len(text), err, 4096, api.OK)
	got, _, err := Read(text)
	expectExpr(t, "Read of a text with 4096 bytes", got, err, e, api.OK)
	*filler += "7"
	text, err = Print(e)
	expect(t, "Print of a long one", text, err, "", api.ErrLong)
	text, err = Print(call("+", name("x")))
	expect(t, "Print of a bad one", text, err, "", api.ErrShape)
}

// TestReadPrinted has all expressions with few parts: no two have the same text, and each text is read as its
// expression.
func TestReadPrinted(t *testing.T) {
	texts := map[string]api.Expr{}
	for _, e := range exprsOf(5) {
		text, err := Print(e)
		expectError(t, "Print of "+show(e), err, api.OK)
		if other, isThere := texts[text]; isThere {
			t.Fatalf("%s and %s have the text %q", show(e), show(other), text)
		}
		texts[text] = e
		got, _, err := Read(text)
		expectExpr(t, "Read of "+text, got, err, e, api.OK)
	}
	if len(texts) < 3000 {
		t.Errorf("there are only %d expressions", len(texts))
	}
}

// exprsOf returns all expressions with at most so many parts, of some operations.
func exprsOf(parts int) []api.Expr {
	lists := make([][]api.Expr, parts+1)
	lists[1] = []api.Expr{name("x"), literal("1/2")}
	for n := 2; n <= parts; n++ {
		for _, a := range lists[n-1] {
			lists[n] = append(lists[n], negative(a), power(a, 2), power(a, -1), call("sin", a))
		}
		for left := 1; left < n-1; left++ {
			for _, a := range lists[left] {
				for _, b := range lists[n-1-left] {
					for _, op := range []string{"+", "-", "*", "/", "max"} {
						lists[n] = append(lists[n], call(op, a, b))
					}
				}
			}
		}
	}
	return slices.Concat(lists...)
}

// TestParentheses takes a pair of parentheses out of printed texts: what remains is another expression, or none.
func TestParentheses(t *testing.T) {
	for _, e := range exprsOf(5) {
		text, _ := Print(e)
		for open := range len(text) {
			if text[open] != '(' || open > 0 && isLetter(text[open-1]) {
				continue
			}
			depth, end := 0, open
			for ; end == open || depth > 0; end++ {
				depth += strings.Count(text[end:end+1], "(") - strings.Count(text[end:end+1], ")")
			}
			without := text[:open] + text[open+1:end-1] + text[end:]
			if other, _, err := Read(without); err == api.OK && sameExpr(other, e) {
				t.Fatalf("%q does not need its parentheses: %q", text, without)
			}
		}
		if strings.Contains(text, "  ") || strings.Trim(text, " ") != text {
			t.Fatalf("the blanks of %q", text)
		}
	}
}

func TestReadSomePrinted(t *testing.T) {
	r := rand.New(rand.NewSource(1))
	for range 5000 {
		e := someExpr(r, 4, []string{"x", "y'", "t", "z_2'''''''"}, allOps())
		text, err := Print(e)
		expectError(t, "Print", err, api.OK)
		got, _, err := Read(text)
		expectExpr(t, "Read of "+text, got, err, e, api.OK)
		free := strings.NewReplacer("(", " (  ", "+", " + ", "^", " ^ ", ",", " , ").Replace(text)
		got, _, err = Read(" " + free + " ")
		expectExpr(t, "Read of "+free, got, err, e, api.OK)
		tight := strings.NewReplacer(" + ", "+", " - ", "-", " * ", "*", ", ", ",").Replace(text)
		got, _, err = Read(tight)
		expectExpr(t, "Read of "+tight, got, err, e, api.OK)
	}
}

// piece is a token for a text, and what it is for the automaton of firstError.
type piece struct {
	text string
	kind byte
}

// pieces have the kinds of operands x, functions of one or two f and g, numbers that may be exponents behind "^" n,
// and, behind a minus sign, too, m; of signs their own ones, and ? of what is permitted nowhere.
var pieces = []piece{
	{"x", 'x'}, {"y'", 'x'}, {"t", 'x'}, {"1/2", 'x'}, {"13", 'x'}, {"0", 'n'}, {"1", 'm'}, {"12", 'm'}, {"sin", 'f'}, {"sqrt", 'f'}, {"min", 'g'}, {"delay", 'g'},
	{"+", '+'}, {"-", '-'}, {"*", '+'}, {"/", '+'}, {"^", '^'}, {"(", '('}, {")", ')'}, {",", ','}, {"(", '('}, {")", ')'}, {"-", '-'}, {"^", '^'},
	{"t'", '?'}, {"2/4", '?'}, {"007", '?'}, {"&", '?'}, {"end", '?'}, {"sin'", '?'},
}

// firstError returns the number of the first token that is not permitted, by an automaton with a stack of how many
// commas are still to come in the open parentheses; the end is the last token.
func firstError(list []piece) int {
	const (
		operand = iota
		opening
		exponent
		negativeExponent
		behindPrimary
		behindPower
	)
	state, commas := operand, 0
	var stack []int
	for i, p := range list {
		isNumber := p.kind == 'n' || p.kind == 'm'
		isBehind := state == behindPrimary || state == behindPower
		switch {
		case state == operand && p.kind == '-':
		case state == operand && (p.kind == 'x' || isNumber):
			state = behindPrimary
		case state == operand && (p.kind == 'f' || p.kind == 'g'):
			state, commas = opening, int(p.kind-'f')
		case state == operand && p.kind == '(':
			stack = append(stack, 0)
		case state == opening && p.kind == '(':
			stack, state = append(stack, commas), operand
		case state == exponent && p.kind == '-':
			state = negativeExponent
		case state == exponent && isNumber, state == negativeExponent && p.kind == 'm':
			state = behindPower
		case state == behindPrimary && p.kind == '^':
			state = exponent
		case isBehind && (p.kind == '+' || p.kind == '-'):
			state = operand
		case isBehind && p.kind == ')' && len(stack) > 0 && stack[len(stack)-1] == 0:
			stack, state = stack[:len(stack)-1], behindPrimary
		case isBehind && p.kind == ',' && len(stack) > 0 && stack[len(stack)-1] > 0:
			stack[len(stack)-1]--
			state = operand
		default:
			return i
		}
	}
	if (state == behindPrimary || state == behindPower) && len(stack) == 0 {
		return -1
	}
	return len(list)
}

// TestPlacesOfErrors compares the places of errors with those of an automaton, in texts of tokens and blanks.
func TestPlacesOfErrors(t *testing.T) {
	r := rand.New(rand.NewSource(2))
	right := 0
	for range 200000 {
		list := make([]piece, 1+r.Intn(9))
		for i := range list {
			list[i] = pieces[r.Intn(len(pieces))]
			for range 3 { // often one that is permitted there
				if firstError(list[:i+1]) != i {
					break
				}
				list[i] = pieces[r.Intn(len(pieces))]
			}
		}
		text := ""
		var places []int
		for _, p := range list {
			text += digits(" ", 1+r.Intn(2))
			places = append(places, len(text))
			text += p.text
		}
		places = append(places, len(text))
		bad := firstError(list)
		_, at, err := Read(text)
		if bad < 0 {
			right++
			expect(t, "Read of "+text, at, err, 0, api.OK)
		} else {
			expect(t, "Read of "+text, at, err, places[bad], api.ErrSyntax)
		}
	}
	if right < 1000 {
		t.Errorf("only %d of the texts are right", right)
	}
}
