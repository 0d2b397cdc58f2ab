package cost

import (
	"clockwork/api"
	"clockwork/determinism"
	"clockwork/lexer"
	"clockwork/parser"
	"clockwork/printer"
	"fmt"
	"slices"
	"testing"
)

// The tests write limits out, where the package computes with them.
const (
	mostSteps  = 16384
	mostKeys   = 64
	mostEmits  = 16
	mostNodes  = 400
	mostDepth  = 12
	mostLevels = 65536 // of which the document promises something
)

// amounts are numbers of what is counted.
type amounts struct{ steps, gets, puts, emits int64 }

// none are the results for procedures that do not pass determinism.Check.
func none() amounts { return amounts{-1, -1, -1, -1} }

func sum(a, b amounts) amounts {
	return amounts{a.steps + b.steps, a.gets + b.gets, a.puts + b.puts, a.emits + b.emits}
}

// least returns the lesser ones of each number.
func least(a, b amounts) amounts {
	return amounts{min(a.steps, b.steps), min(a.gets, b.gets), min(a.puts, b.puts), min(a.emits, b.emits)}
}

// saturate replaces the numbers that are too great.
func saturate(a amounts) amounts {
	return least(a, amounts{mostSteps + 1, mostSteps + 1, mostSteps + 1, mostSteps + 1})
}

// resultsOf returns the results of the four functions.
func resultsOf(p api.Proc) amounts {
	return amounts{int64(Steps(p)), int64(Gets(p)), int64(Puts(p)), int64(Emits(p))}
}

// readsIn counts the words in the text of e that read the state.
func readsIn(e api.Expr) int64 {
	tokens, _, _ := lexer.Tokenize(printer.Expr(e))
	isOther := func(x api.Token) bool {
		return x.Kind != api.TkKeyword || !slices.Contains([]string{"getint", "getstr", "has"}, x.Text)
	}
	return int64(len(slices.DeleteFunc(tokens, isOther)))
}

// ownOf returns what s itself counts, without the statements in it and the iterations.
func ownOf(s api.Stmt) amounts {
	a := amounts{steps: 1}
	for _, e := range []api.Expr{s.A, s.B} {
		if e.Op != 0 {
			a.gets += readsIn(e)
		}
	}
	switch s.Op {
	case api.SPut, api.SDelete:
		a.puts = 1
	case api.SEmit:
		a.emits = 1
	}
	return a
}

// exact returns the greatest one of the four numbers that the field selects among the paths through the statements.
func exact(body []api.Stmt, field func(a amounts) int64) int64 {
	var number int64
	for _, s := range body {
		number += field(ownOf(s))
		switch s.Op {
		case api.SIf:
			number += max(exact(s.Body, field), exact(s.Else, field))
		case api.SFor:
			for range s.Max {
				number += field(amounts{steps: 1})
			}
			number += int64(s.Max) * exact(s.Body, field)
		}
	}
	return number
}

// exactOf returns the greatest numbers of the paths through the statements, which 64 bits can hold, because 12 loops have at most 2^48 iterations.
func exactOf(body []api.Stmt) amounts {
	return amounts{
		exact(body, func(a amounts) int64 { return a.steps }),
		exact(body, func(a amounts) int64 { return a.gets }),
		exact(body, func(a amounts) int64 { return a.puts }),
		exact(body, func(a amounts) int64 { return a.emits }),
	}
}

// definedResults is the definition of the results of the four functions.
func definedResults(p api.Proc) amounts {
	if determinism.Check(p) != api.OK {
		return none()
	}
	return saturate(exactOf(p.Body))
}

// definedCheck is the definition of the result of Check.
func definedCheck(p api.Proc) api.Errno {
	if e := determinism.Check(p); e != api.OK {
		return e
	}
	a := exactOf(p.Body)
	switch {
	case a.steps > mostSteps:
		return api.ErrFuel
	case a.gets > mostKeys || a.puts > mostKeys || a.emits > mostEmits:
		return api.ErrLimit
	default:
		return api.OK
	}
}

// proc returns the tree of a procedure with the parameters k: str and n: int, and this body.
func proc(t *testing.T, body string) api.Proc {
	t.Helper()
	p, line, e := parser.Proc("proc p(k: str, n: int) {" + body + "}")
	if e != api.OK {
		t.Fatalf("the body %q has the error %d at line %d", body, e, line)
	}
	return p
}

// show returns the text of p for messages.
func show(p api.Proc) string {
	if text := printer.Proc(p); text != "" {
		return text
	}
	text := fmt.Sprintf("%+v", p)
	return text[:min(len(text), 2000)]
}

// checkProc requires the results of all functions, and that the definition has them, too.
func checkProc(t *testing.T, p api.Proc, want amounts, wantError api.Errno) {
	t.Helper()
	if got, e := resultsOf(p), Check(p); got != want || e != wantError {
		t.Fatalf("the results are %+v and %d, want %+v and %d, of\n%s", got, e, want, wantError, show(p))
	}
	if got, e := definedResults(p), definedCheck(p); got != want || e != wantError {
		t.Fatalf("the test takes %+v and %d, and not %+v and %d, for the results of\n%s", want, wantError, got, e, show(p))
	}
}

// checkBody requires the counts of an accepted procedure with this body.
func checkBody(t *testing.T, body string, want amounts) {
	t.Helper()
	checkProc(t, proc(t, body), want, api.OK)
}
