package printer

import (
	"clockwork/api"
	"clockwork/ast"
	"math/rand/v2"
	"slices"
	"strings"
	"testing"
)

// generator makes random expressions and statements, which are valid but for their depths and their number.
type generator struct {
	*rand.Rand
}

// newGenerator returns a generator that makes the same things each time.
func newGenerator() generator {
	return generator{rand.New(rand.NewPCG(9, 5))}
}

// some returns one of the elements.
func some[E any](g generator, l ...E) E {
	return l[g.IntN(len(l))]
}

// expr returns an expression of up to this number of levels.
func (g generator) expr(levels int) api.Expr {
	op := 1 + g.IntN(api.ENode)
	if levels == 1 || g.IntN(4) == 0 {
		op = some(g, api.EInt, api.EStr, api.EVar)
	}
	e := api.Expr{Op: op}
	switch op {
	case api.EInt:
		e.N = some(g, 0, 1, 2, 10, g.Int64()>>g.IntN(64))
	case api.EStr:
		e.S = some(g, "", "{", "}", `"`, `\`, `"}`, " ", "a", `" or "`, strings.Repeat(`"`, g.IntN(65)))
	case api.EVar:
		e.S = some(g, "x", "y", "z", "nota", "e_1")
	}
	for range ast.Arity(op) {
		e.Args = append(e.Args, g.expr(levels-1))
	}
	return e
}

// stmts returns lists of up to most statements, nested in up to this number of levels.
func (g generator) stmts(levels, most int) []api.Stmt {
	var l []api.Stmt
	for range g.IntN(most + 1) {
		s := some(g, fullStmts()...)
		if levels == 1 {
			s.Body, s.Else = nil, nil
		} else if s.Body != nil {
			s.Body = g.stmts(levels-1, most)
		}
		if s.Else != nil {
			s.Else = g.stmts(levels-1, most)
		}
		if s.A.Op != 0 {
			s.A = g.expr(1 + g.IntN(4))
		}
		if s.B.Op != 0 {
			s.B = g.expr(1 + g.IntN(4))
		}
		if s.Name != "" {
			s.Name = some(g, "x", "y", "z", "lets")
		}
		if s.Max != 0 {
			s.Max = 1 + g.IntN(mostLoop)
		}
		l = append(l, s)
	}
	return l
}

// proc returns a procedure.
func (g generator) proc(levels, most int) api.Proc {
	p := api.Proc{Name: some(g, "p", "q", "procs"), Body: g.stmts(levels, most)}
	for _, name := range []string{"x", "y", "z", "k", "n", "m"}[:g.IntN(mostParams+1)] {
		p.Params = append(p.Params, param(name, 1+g.IntN(3)))
	}
	return p
}

func TestP9_1Random(t *testing.T) {
	g := newGenerator()
	for i := range 20000 {
		e := g.expr(1 + i%10)
		checkExpr(t, e, textOf(e))
	}
}

// exprEdits returns functions each of which changes e at one node.
func exprEdits(e *api.Expr) []func() {
	old := *e
	l := []func(){
		func() { e.N++ }, func() { e.N = 0 }, func() { e.S += "x" }, func() { e.S = "" }, func() { e.S += `\` }, func() { *e = number(17) }, func() { *e = text("17") }, func() { *e = variable("e17") },
		func() { *e = apply(api.ENeg, old) }, func() { *e = apply(api.ENot, old) }, func() { *e = apply(api.EText, old) }, func() { *e = apply(api.EAdd, old, number(1)) }, func() { *e = apply(api.EAnd, number(1), old) },
		func() { e.Args = append([]api.Expr{}, e.Args...); slices.Reverse(e.Args) },
	}
	for op := api.EInt; op <= api.ENode; op++ {
		l = append(l, func() { e.Op = op })
	}
	if len(old.Args) > 0 {
		l = append(l, func() { *e = old.Args[0] }, func() { *e = old.Args[len(old.Args)-1] })
	}
	if len(old.Args) == 2 && len(old.Args[0].Args) == 2 {
		// A chain of operators is turned from the left to the right.
		x, y, z := old.Args[0].Args[0], old.Args[0].Args[1], old.Args[1]
		l = append(l, func() { *e = apply(old.Args[0].Op, x, apply(old.Op, y, z)) })
	}
	for i := range e.Args {
		l = append(l, exprEdits(&e.Args[i])...)
	}
	return l
}

// listEdits does the same for statements, and moves them.
func listEdits(l *[]api.Stmt) []func() {
	old := *l
	edits := []func(){func() { *l = append(slices.Clone(old), abort(1)) }, func() { *l = append(aborts(1), old...) }, func() { *l = stmts(when(a, old, nil)) }, func() { *l = nil }}
	for i := range old {
		s := &old[i]
		edits = append(edits,
			func() { s.Name += "x" }, func() { s.Max++ }, func() { s.Max-- }, func() { s.Op++ }, func() { s.Op-- }, func() { s.Op = api.SIf; s.Name, s.Max = "", 0 },
			func() { s.A, s.B = s.B, s.A }, func() { s.Body, s.Else = s.Else, s.Body }, func() { s.Body, s.Else = append(slices.Clone(s.Body), s.Else...), nil },
			func() { *l = slices.Delete(slices.Clone(old), i, i+1) }, func() { *l = append(slices.Clone(old[:i]), append(old[i].Body, old[i+1:]...)...) },
			func() { (*l)[i], (*l)[len(old)-1-i] = (*l)[len(old)-1-i], (*l)[i] },
		)
		edits = append(edits, slices.Concat(exprEdits(&s.A), exprEdits(&s.B), listEdits(&s.Body), listEdits(&s.Else))...)
	}
	return edits
}

// procEdits does the same for a procedure.
func procEdits(p *api.Proc) []func() {
	edits := []func(){func() { p.Name += "x" }, func() { p.Name = "other" }, func() { p.Params = append(slices.Clone(p.Params), param("fresh", 1)) }, func() { p.Params = nil }}
	for i := range p.Params {
		x := &p.Params[i]
		edits = append(edits, func() { x.Name += "x" }, func() { x.Type = x.Type%3 + 1 }, func() { p.Params = slices.Delete(p.Params, i, i+1) })
	}
	return append(edits, listEdits(&p.Body)...)
}

// TestP9_4Edits requires that no change of a procedure keeps its text, if the procedure is valid with it.
func TestP9_4Edits(t *testing.T) {
	count := 0
	for _, p := range append([]api.Proc{add(), counter(), proc(fullStmts()...), {Name: "none"}}, randomProcs(t, 80)...) {
		if ast.Nodes(p) > 40 {
			continue
		}
		before := Proc(p)
		for i := range procEdits(&p) {
			q := roomyProc(p)
			procEdits(&q)[i]()
			if ast.Validate(q) != api.OK || ast.Equal(p, q) {
				continue
			}
			count++
			if Proc(q) == before {
				t.Fatalf("%+v and %+v have the text\n%s", p, q, before)
			}
			checkProc(t, q, procTextOf(q))
		}
	}
	if count < 5000 {
		t.Errorf("%d changes are tested", count)
	}
}

// TestP9_4Pairs compares procedures with one another.
func TestP9_4Pairs(t *testing.T) {
	texts := map[string]api.Proc{}
	for _, p := range randomProcs(t, 2000) {
		s := Proc(p)
		if q, ok := texts[s]; ok && !ast.Equal(p, q) {
			t.Fatalf("%+v and %+v have the text\n%s", p, q, s)
		}
		texts[s] = p
	}
	if len(texts) < 1500 {
		t.Errorf("%d procedures are different", len(texts))
	}
}

// TestP9_4Similar has expressions whose texts differ in a few bytes only.
func TestP9_4Similar(t *testing.T) {
	seen := map[string]api.Expr{}
	for _, e := range []api.Expr{
		number(1), text("1"), variable("x"), text("x"), text(`"x"`), text(`\"x\"`), text(""), text(" "), text("  "), apply(api.ENow), text("now()"), variable("now1"),
		apply(api.ENeg, number(1)), text("-1"), apply(api.ENeg, apply(api.ENeg, number(1))), apply(api.EText, number(1)), apply(api.EText, text("1")), text("text(1)"),
		apply(api.ENot, variable("a")), variable("nota"), variable("not_a"), apply(api.ESub, a, b), apply(api.ESub, a, apply(api.ENeg, b)), apply(api.EAdd, a, apply(api.ENeg, b)), apply(api.ENeg, apply(api.ESub, a, b)), apply(api.ESub, apply(api.ENeg, a), b),
		apply(api.EAdd, a, b), apply(api.ECat, a, b), apply(api.EAdd, a, apply(api.EAdd, b, c)), apply(api.EAdd, apply(api.EAdd, a, b), c), apply(api.ENot, apply(api.EEq, a, b)), apply(api.EEq, apply(api.ENot, a), b),
		apply(api.ELt, a, b), apply(api.ELe, a, b), apply(api.EEq, a, b), apply(api.EEq, apply(api.EEq, a, b), c), apply(api.EEq, a, apply(api.EEq, b, c)),
		apply(api.EOr, a, apply(api.EAnd, b, c)), apply(api.EAnd, apply(api.EOr, a, b), c), apply(api.EOr, apply(api.EAnd, a, b), c), apply(api.EAnd, a, apply(api.EOr, b, c)),
	} {
		s := textOf(e)
		checkExpr(t, e, s)
		if other, ok := seen[s]; ok {
			t.Errorf("%+v and %+v have the text %q", e, other, s)
		}
		seen[s] = e
	}
}

// TestP9_5Braces puts braces, line feeds and quotes into strings and elsewhere.
func TestP9_5Braces(t *testing.T) {
	for _, s := range []string{"{", "}", "}{", `"{`, `{"`, `\"}`, `\{`, `}\`, `"}"`, strings.Repeat("{", 64), strings.Repeat(`"}`, 32)} {
		e := apply(api.ECat, text(s), apply(api.EGetStr, text(s)))
		checkExpr(t, e, textOf(e))
		for _, x := range nests() {
			p := proc(put(e, text(s)), x.nest(let("y", e), x.nest(x.nest(), emit(e)), emit(text(s))), remove(e))
			checkProc(t, p, procTextOf(p))
			checkProgram(t, []api.Proc{p, p}, procTextOf(p)+"\n"+procTextOf(p))
		}
	}
	for _, s := range []string{"\n", "a\nb", "\r", "x\n"} {
		checkExpr(t, apply(api.ENeg, text(s)), "")
		checkExpr(t, apply(api.ENeg, variable(s)), "")
		checkProc(t, proc(emit(text(s))), "")
		checkProc(t, proc(let(s, number(1))), "")
		checkProc(t, api.Proc{Name: s}, "")
		checkProc(t, withParams(param(s, 1)), "")
	}
}
