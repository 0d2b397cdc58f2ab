package determinism

import (
	"clockwork/api"
	"clockwork/ast"
	"clockwork/parser"
	"clockwork/printer"
	"clockwork/types"
	"fmt"
	"slices"
	"testing"
)

// The tests write limits out, where the package computes with them.
const (
	mostNodes  = 400
	mostDepth  = 12
	mostLevels = 65536 // of which the document promises something
)

// lastOperator is that of ENode, the greatest one.
const lastOperator = 27

// nondeterministic and reading are the chapter's sets of operators.
func nondeterministic() []int { return []int{25, 26, 27} }

func reading() []int { return []int{22, 23, 24} }

// nodesOf lists the nodes of the expressions, in order, each of them in preorder.
func nodesOf(exprs ...api.Expr) []api.Expr {
	rest := slices.Clone(exprs)
	slices.Reverse(rest)
	var l []api.Expr
	for len(rest) > 0 {
		e := rest[len(rest)-1]
		rest = rest[:len(rest)-1]
		l = append(l, e)
		for _, arg := range slices.Backward(e.Args) {
			rest = append(rest, arg)
		}
	}
	return l
}

// exprsOf lists the expressions of the statements, those of a statement before those of the statements in it.
func exprsOf(body []api.Stmt) []api.Expr {
	var l []api.Expr
	for _, s := range body {
		for _, e := range []api.Expr{s.A, s.B} {
			if e.Op != 0 {
				l = append(l, e)
			}
		}
		l = append(l, exprsOf(s.Body)...)
		l = append(l, exprsOf(s.Else)...)
	}
	return l
}

// hasOneOf tells whether a node of e has one of the operators.
func hasOneOf(e api.Expr, ops []int) bool {
	return slices.ContainsFunc(nodesOf(e), func(x api.Expr) bool { return slices.Contains(ops, x.Op) })
}

// found is the result of First.
type found struct {
	op, before int
	ok         bool
}

// firstOf returns the result of First.
func firstOf(p api.Proc) found {
	op, before, ok := First(p)
	return found{op, before, ok}
}

// definedFirst is the definition of the result of First.
func definedFirst(p api.Proc) found {
	if ast.Validate(p) != api.OK {
		return found{}
	}
	for i, x := range nodesOf(exprsOf(p.Body)...) {
		if slices.Contains(nondeterministic(), x.Op) {
			return found{x.Op, i, true}
		}
	}
	return found{}
}

// definedCheck is the definition of the result of Check.
func definedCheck(p api.Proc) api.Errno {
	isBad := func(e api.Expr) bool { return hasOneOf(e, nondeterministic()) }
	switch {
	case types.Check(p) != api.OK:
		return types.Check(p)
	case slices.ContainsFunc(exprsOf(p.Body), isBad):
		return api.ErrNondeterministic
	default:
		return api.OK
	}
}

// expr returns the tree of the source text.
func expr(t *testing.T, src string) api.Expr {
	t.Helper()
	e, _, err := parser.Expr(src)
	if err != api.OK {
		t.Fatalf("the expression %q has the error %d", src, err)
	}
	return e
}

// proc returns the tree of a procedure with the parameters n: int and s: str, and this body.
func proc(t *testing.T, body string) api.Proc {
	t.Helper()
	return procOf(t, "proc p(n: int, s: str) {"+body+"}")
}

// procOf returns the tree of the source text.
func procOf(t *testing.T, src string) api.Proc {
	t.Helper()
	p, line, e := parser.Proc(src)
	if e != api.OK {
		t.Fatalf("the procedure %q has the error %d at line %d", src, e, line)
	}
	return p
}

// show returns the text of p for messages.
func show(p api.Proc) string {
	if text := printer.Proc(p); text != "" {
		return text
	}
	text := fmt.Sprintf("%+v", p)
	return text[:min(len(text), 2000)]
}

// checkExpr requires the results of Pure and Reads, and that the definition has them, too.
func checkExpr(t *testing.T, e api.Expr, pure, reads bool) {
	t.Helper()
	if Pure(e) != pure || Reads(e) != reads {
		t.Fatalf("Pure = %t, Reads = %t of %+v", Pure(e), Reads(e), e)
	}
	if definedReads := hasOneOf(e, reading()); definedReads != reads || (definedReads || hasOneOf(e, nondeterministic())) == pure {
		t.Fatalf("the test takes %t, %t for the results of %+v", pure, reads, e)
	}
}

// checkFirst requires the result of First, and that the definition has it, too.
func checkFirst(t *testing.T, p api.Proc, want found) {
	t.Helper()
	if got := firstOf(p); got != want {
		t.Fatalf("First = %+v, want %+v, of\n%s", got, want, show(p))
	}
	if got := definedFirst(p); got != want {
		t.Fatalf("the test takes %+v, and not %+v, for the result of\n%s", want, got, show(p))
	}
}

// checkProc requires the result of Check, and that the definition has it, too.
func checkProc(t *testing.T, p api.Proc, want api.Errno) {
	t.Helper()
	if e := Check(p); e != want {
		t.Fatalf("Check = %d, want %d, of\n%s", e, want, show(p))
	}
	if e := definedCheck(p); e != want {
		t.Fatalf("the test takes the error %d, and not %d, for that of\n%s", want, e, show(p))
	}
}
