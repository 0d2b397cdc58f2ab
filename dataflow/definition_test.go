package dataflow

import (
	"clockwork/api"
	"clockwork/ast"
	"clockwork/lexer"
	"clockwork/parser"
	"clockwork/printer"
	"clockwork/types"
	"fmt"
	"slices"
	"strings"
	"testing"
)

// The tests write limits out, where the package computes with them.
const (
	mostNodes  = 400
	mostDepth  = 12
	mostLevels = 65536 // of which the document promises something
)

// results are those of the four functions, with the names in one text.
type results struct {
	tainted                    string
	keys, control, independent bool
}

// resultsOf returns the results of the four functions.
func resultsOf(p api.Proc) results {
	return results{strings.Join(Tainted(p), " "), KeysTainted(p), ControlTainted(p), Independent(p)}
}

// wordsOf lists the words and names in the text of e, which is valid.
func wordsOf(e api.Expr) []string {
	tokens, _, _ := lexer.Tokenize(printer.Expr(e))
	var l []string
	for _, x := range tokens {
		if x.Kind == api.TkName || x.Kind == api.TkKeyword {
			l = append(l, x.Text)
		}
	}
	return l
}

// readingWords are those of the reading operators.
func readingWords() []string { return []string{"getint", "getstr", "has"} }

// nodesOf lists the nodes of the expressions, in any order.
func nodesOf(exprs ...api.Expr) []api.Expr {
	l := slices.Clone(exprs)
	for i := 0; i < len(l); i++ {
		l = append(l, l[i].Args...)
	}
	return l
}

// assignment is a statement with a variable, and the expressions of which one is tainted if it is.
type assignment struct {
	name string
	from []api.Expr
}

// parts are those of a procedure of which the chapter speaks.
type parts struct {
	assignments    []assignment
	keys, branches []api.Expr
}

// add adds the parts of the statements, which are inside of others with these branches.
func (x *parts) add(body []api.Stmt, outer []api.Expr) {
	for _, s := range body {
		var own []api.Expr
		for _, e := range []api.Expr{s.A, s.B} {
			if e.Op != 0 {
				own = append(own, e)
			}
		}
		for _, e := range nodesOf(own...) {
			if e.Op == api.EGetInt || e.Op == api.EGetStr || e.Op == api.EHas {
				x.keys = append(x.keys, e.Args[0])
			}
		}
		from := slices.Concat(outer, own)
		switch s.Op {
		case api.SLet, api.SSet:
			x.assignments = append(x.assignments, assignment{s.Name, from})
		case api.SPut, api.SDelete:
			x.keys = append(x.keys, s.A)
		case api.SFor:
			x.assignments = append(x.assignments, assignment{s.Name, from})
			x.branches = append(x.branches, own...)
		case api.SIf:
			x.branches = append(x.branches, own...)
		}
		x.add(s.Body, from)
		x.add(s.Else, from)
	}
}

// taintedWords are the words and names with which an expression is tainted: those to which a way leads from a reading operator.
func (x *parts) taintedWords() map[string]bool {
	next := map[string][]string{}
	for _, a := range x.assignments {
		for _, e := range a.from {
			for _, word := range wordsOf(e) {
				next[word] = append(next[word], a.name)
			}
		}
	}
	reached := map[string]bool{}
	for rest := readingWords(); len(rest) > 0; rest = rest[1:] {
		if !reached[rest[0]] {
			reached[rest[0]] = true
			rest = append(rest, next[rest[0]]...)
		}
	}
	return reached
}

// definedResults is the definition of the results of the four functions.
func definedResults(p api.Proc) results {
	if types.Check(p) != api.OK {
		return results{}
	}
	var x parts
	x.add(p.Body, nil)
	words := x.taintedWords()
	isTainted := func(e api.Expr) bool {
		return slices.ContainsFunc(wordsOf(e), func(word string) bool { return words[word] })
	}
	isOther := func(name string) bool { return !words[name] }
	keys := slices.ContainsFunc(x.keys, isTainted)
	return results{strings.Join(slices.DeleteFunc(ast.Names(p), isOther), " "), keys, slices.ContainsFunc(x.branches, isTainted), !keys}
}

// proc returns the tree of a procedure with the parameters s: str and n: int, and this body.
func proc(t *testing.T, body string) api.Proc {
	t.Helper()
	p, line, e := parser.Proc("proc p(s: str, n: int) {" + body + "}")
	if e != api.OK {
		t.Fatalf("the body %q has the error %d at line %d", body, e, line)
	}
	return p
}

// show returns the text of p for messages.
func show(p api.Proc) string {
	if text := printer.Proc(p); text != "" {
		return text
	}
	text := fmt.Sprintf("%+v", p)
	return text[:min(len(text), 2000)]
}

// checkProc requires the results of all functions, and that the definition has them, too.
func checkProc(t *testing.T, p api.Proc, want results) {
	t.Helper()
	if got := resultsOf(p); got != want {
		t.Fatalf("the results are %+v, want %+v, of\n%s", got, want, show(p))
	}
	if got := definedResults(p); got != want {
		t.Fatalf("the test takes %+v, and not %+v, for the results of\n%s", want, got, show(p))
	}
}

// checkBody requires the results of a procedure with this body, which passes types.Check.
func checkBody(t *testing.T, body, tainted string, keys, control bool) {
	t.Helper()
	checkProc(t, proc(t, body), results{tainted, keys, control, !keys})
}
