package equation

import (
	"iter"
	"slices"
	"strings"

	"integraph/api"
	"integraph/exact"
	"integraph/number"
)

// token is a token of a text, and its place; the first byte tells of which kind it is. The end of the text is an
// empty one.
type token struct {
	text string
	at   int
}

// tokens visits the tokens of a text, and at last its end. A byte that belongs to no token is visited as if it
// were one: the grammar permits it nowhere.
func tokens(s string) iter.Seq[token] {
	return func(yield func(token) bool) {
		for at := 0; ; {
			for at < len(s) && s[at] == ' ' {
				at++
			}
			n := tokenLength(s[at:])
			if !yield(token{s[at : at+n], at}) || n == 0 {
				return
			}
			at += n
		}
	}
}

// tokenLength returns the length of the token with which a text begins.
func tokenLength(s string) int {
	switch {
	case s == "":
		return 0
	case isLetter(s[0]):
		n := run(s, 0, isInName)
		return run(s, n, isApostrophe)
	case isDigit(s[0]):
		n := run(s, 0, isDigit)
		if n+1 < len(s) && s[n] == '/' && isDigit(s[n+1]) {
			return run(s, n+1, isDigit)
		}
		return n
	}
	return 1
}

// run returns the place behind the bytes of a kind that stand in a text from a place on.
func run(s string, from int, is func(c byte) bool) int {
	for from < len(s) && is(s[from]) {
		from++
	}
	return from
}

func isLetter(c byte) bool { return 'a' <= c && c <= 'z' || 'A' <= c && c <= 'Z' }

func isDigit(c byte) bool { return '0' <= c && c <= '9' }

func isInName(c byte) bool { return isLetter(c) || isDigit(c) || c == '_' }

func isApostrophe(c byte) bool { return c == '\'' }

// isNumber reports whether a text is a number as it is written in chapter 1. How many digits it has does not matter.
func isNumber(s string) bool {
	if err := exact.Check(api.Rat(s)); err != api.ErrLarge {
		return err == api.OK
	}
	num, den, isQuotient := strings.Cut(strings.TrimPrefix(s, "-"), "/")
	if !isQuotient {
		return true
	}
	_, isLowest := number.Quotient(num, den)
	return isLowest
}

// The levels of the grammar.
const (
	sumLevel = iota
	productLevel
	signLevel
	powerLevel
	primaryLevel
	levelCount
)

// level is a level of the grammar. Its function reads an expression of this level; if it cannot, it returns false,
// and the reader stands at the first token that is not permitted.
type level struct {
	read func(r *reader) (api.Expr, bool)
}

// reader stands at a token of a text.
type reader struct {
	levels [levelCount]level
	tokens []token
	at     int
}

// Read returns the expression with a text, or the place of its first error.
func Read(s string) (api.Expr, int, api.Errno) {
	if len(s) > api.MaxText {
		return api.Expr{}, 0, api.ErrLong
	}
	r := newReader(s)
	e, ok := r.read(sumLevel)
	if !ok || r.token() != "" {
		return api.Expr{}, r.tokens[r.at].at, api.ErrSyntax
	}
	if err := CheckExpr(e); err != api.OK {
		return api.Expr{}, 0, err
	}
	return e, 0, api.OK
}

func newReader(s string) *reader {
	r := &reader{levels: [levelCount]level{
		sumLevel:     {chain(productLevel, "+", "-")},
		productLevel: {chain(signLevel, "*", "/")},
		signLevel:    {(*reader).sign},
		powerLevel:   {(*reader).power},
		primaryLevel: {(*reader).primary},
	}}
	for token := range tokens(s) {
		r.tokens = append(r.tokens, token)
	}
	return r
}

// read reads an expression of a level.
func (r *reader) read(level int) (api.Expr, bool) { return r.levels[level].read(r) }

// token returns the text of the token at which the reader stands.
func (r *reader) token() string { return r.tokens[r.at].text }

// accept goes on if the reader stands at a token with this text.
func (r *reader) accept(text string) bool {
	if r.token() != text {
		return false
	}
	r.at++
	return true
}

// chain returns the function of a level whose operators have two operands and associate to the left.
func chain(operand int, operators ...string) func(r *reader) (api.Expr, bool) {
	return func(r *reader) (api.Expr, bool) {
		e, ok := r.read(operand)
		for ok && slices.Contains(operators, r.token()) {
			operator := r.token()
			r.at++
			var right api.Expr
			right, ok = r.read(operand)
			e = call(operator, e, right)
		}
		return e, ok
	}
}

func (r *reader) sign() (api.Expr, bool) {
	if !r.accept("-") {
		return r.read(powerLevel)
	}
	e, ok := r.read(signLevel)
	return negative(e), ok
}

func (r *reader) power() (api.Expr, bool) {
	e, ok := r.read(primaryLevel)
	if !ok || !r.accept("^") {
		return e, ok
	}
	isNegative := r.accept("-")
	n, err := exact.Int(api.Rat(r.token()))
	if err != api.OK || n < 0 || n > mostExponent || isNegative && n == 0 {
		return api.Expr{}, false
	}
	r.at++
	if isNegative {
		n = -n
	}
	return power(e, n), true
}

func (r *reader) primary() (api.Expr, bool) {
	text := r.token()
	switch {
	case isNumber(text):
		r.at++
		return literal(api.Rat(text)), true
	case isName(text):
		r.at++
		return name(text), true
	case operands(text) > 0:
		r.at++
		return r.function(text)
	case r.accept("("):
		e, ok := r.read(sumLevel)
		return e, ok && r.accept(")")
	}
	return api.Expr{}, false
}

// function reads the operands of a function, and the parentheses around them.
func (r *reader) function(function string) (api.Expr, bool) {
	separator := "("
	var args []api.Expr
	for range operands(function) {
		if !r.accept(separator) {
			return api.Expr{}, false
		}
		arg, ok := r.read(sumLevel)
		if !ok {
			return api.Expr{}, false
		}
		args = append(args, arg)
		separator = ","
	}
	return call(function, args...), r.accept(")")
}
