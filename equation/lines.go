package equation

import (
	"iter"
	"slices"
	"strings"

	"integraph/api"
	"integraph/exact"
)

const (
	problemWord = "problem "
	paramWord   = "param "
	startWord   = "start "
	endWord     = "end "
)

// PrintProblem returns the text of a problem.
func PrintProblem(p api.Problem) (string, api.Errno) {
	if err := CheckProblem(p); err != api.OK {
		return "", err
	}
	var b strings.Builder
	b.WriteString(problemWord + p.Name + "\n")
	for left, right := range assignments(p) {
		text, err := Print(right)
		if err != api.OK {
			return "", err
		}
		b.WriteString(left + " = " + text + "\n")
	}
	b.WriteString(endWord + string(p.End) + "\n")
	return b.String(), api.OK
}

// assignments visits what stands before "=" in the lines of a problem, and the expressions behind it.
func assignments(p api.Problem) iter.Seq2[string, api.Expr] {
	return func(yield func(string, api.Expr) bool) {
		for _, param := range p.Params {
			if !yield(paramWord+param.Name, param.Value) {
				return
			}
		}
		for _, equation := range p.Equations {
			if !yield(derived(equation.Name, equation.Order), equation.Right) {
				return
			}
		}
		for _, start := range p.Starts {
			if !yield(startWord+derived(start.Name, start.Order), start.Value) {
				return
			}
		}
	}
}

// ReadProblem returns the problem with a text, or the line of its first error.
func ReadProblem(s string) (api.Problem, int, api.Errno) {
	if len(s) > api.MaxLog {
		return api.Problem{}, 0, api.ErrLong
	}
	var d draft
	if line, err := d.readLines(s); err != api.OK {
		return api.Problem{}, line, err
	}
	if err := d.orderStarts(); err != api.OK {
		return api.Problem{}, 0, err
	}
	if err := CheckProblem(d.problem); err != api.OK {
		return api.Problem{}, 0, err
	}
	return d.problem, 0, api.OK
}

// draft is a problem that is being read.
type draft struct {
	problem api.Problem
}

// The forms of lines, in the order in which the lines stand.
const (
	nameForm = iota
	paramForm
	equationForm
	startForm
	endForm
	formCount
)

// match reads a line without blanks around it. It returns false if the line does not have the form, apart from its
// expression, and otherwise the error of this.
type match func(line string) (bool, api.Errno)

// readLines reads the lines of a problem, or returns the number of the first one with an error.
func (d *draft) readLines(s string) (int, api.Errno) {
	forms := [formCount]match{d.readName, d.readParam, d.readEquation, d.readStart, d.readEnd}
	count := 0
	first, behind := nameForm, nameForm+1 // lines of the forms from first to before behind may follow
	for line := range strings.Lines(s) {
		count++
		line = strings.Trim(strings.TrimSuffix(line, "\n"), " ")
		if line == "" || line[0] == '#' {
			continue
		}
		found, err := readLine(line, forms[first:behind])
		if err != api.OK {
			return count, err
		}
		first, behind = following(first + found)
	}
	if first != formCount {
		return count + 1, api.ErrSyntax
	}
	return 0, api.OK
}

// readLine reads a line of one of these forms, and returns which one it is.
func readLine(line string, forms []match) (int, api.Errno) {
	for i, read := range forms {
		if isRead, err := read(line); isRead {
			return i, err
		}
	}
	return 0, api.ErrSyntax
}

// following returns the first form that a line may have behind one of some form, and the end of these forms.
func following(form int) (int, int) {
	if form == nameForm || form == endForm {
		return form + 1, formCount
	}
	return form, formCount
}

func (d *draft) readName(line string) (bool, api.Errno) {
	name, isForm := cutWord(line, problemWord)
	d.problem.Name = name
	return isForm && exact.IsName(name), api.OK
}

func (d *draft) readParam(line string) (bool, api.Errno) {
	given, isForm, err := readGiven(line, paramWord, 0, 0)
	if isForm {
		d.problem.Params = append(d.problem.Params, given)
	}
	return isForm, err
}

func (d *draft) readEquation(line string) (bool, api.Errno) {
	given, isForm, err := readGiven(line, "", 1, mostOrder)
	if isForm {
		equation := api.Equation{Name: given.Name, Order: given.Order, Right: given.Value}
		d.problem.Equations = append(d.problem.Equations, equation)
	}
	return isForm, err
}

func (d *draft) readStart(line string) (bool, api.Errno) {
	given, isForm, err := readGiven(line, startWord, 0, mostApostrophes)
	if isForm {
		d.problem.Starts = append(d.problem.Starts, given)
	}
	return isForm, err
}

func (d *draft) readEnd(line string) (bool, api.Errno) {
	end, isForm := cutWord(line, endWord)
	d.problem.End = api.Rat(end)
	return isForm && isNumber(end), api.OK
}

// cutWord returns what stands behind a word and blanks.
func cutWord(line, word string) (string, bool) {
	rest, isThere := strings.CutPrefix(line, word)
	return strings.TrimLeft(rest, " "), isThere
}

// readGiven reads a line of a word, a variable with a number of apostrophes from least to most, "=" and an
// expression. It returns false if the line does not have this form, and otherwise the error of the expression.
func readGiven(line, word string, least, most int) (api.Given, bool, api.Errno) {
	rest, hasWord := cutWord(line, word)
	left, right, hasSign := strings.Cut(rest, "=")
	variable, order := split(strings.TrimRight(left, " "))
	if !hasWord || !hasSign || !IsVariable(variable) || order < least || order > most {
		return api.Given{}, false, api.OK
	}
	e, _, err := Read(strings.TrimLeft(right, " "))
	return api.Given{Name: variable, Order: order, Value: e}, true, err
}

// orderStarts puts the starts into the right order, those that belong nowhere behind all others, or returns ErrTwice.
func (d *draft) orderStarts() api.Errno {
	type key struct {
		name  string
		order int
	}
	places := map[key]int{}
	for variable, order := range firstOrder(d.problem.Equations) {
		places[key{variable, order}] = len(places)
	}
	seen := map[key]bool{}
	for _, start := range d.problem.Starts {
		k := key{start.Name, start.Order}
		if seen[k] {
			return api.ErrTwice
		}
		seen[k] = true
		if _, belongs := places[k]; !belongs {
			places[k] = len(d.problem.Equations) * mostOrder
		}
	}
	slices.SortStableFunc(d.problem.Starts, func(a, b api.Given) int {
		return places[key{a.Name, a.Order}] - places[key{b.Name, b.Order}]
	})
	return api.OK
}
