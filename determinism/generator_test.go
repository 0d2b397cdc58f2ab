package determinism

import (
	"clockwork/api"
	"clockwork/ast"
	"clockwork/parser"
	"fmt"
	"math/rand/v2"
	"strings"
)

// generator makes random expressions and procedures.
type generator struct {
	*rand.Rand
	errors int // undeclared variables and wrong types in a thousand places, on average
	bad    int // nondeterministic operators in a thousand places, on average
	names  int // that are declared so far
}

// newGenerator returns a generator that makes the same things each time.
func newGenerator(seed uint64) *generator {
	return &generator{Rand: rand.New(rand.NewPCG(12, seed))}
}

// some returns one of the elements.
func some[E any](g *generator, l ...E) E {
	return l[g.IntN(len(l))]
}

// text returns the source of an expression of the type (I, S or B), of up to this number of levels.
func (g *generator) text(ty byte, levels int) string {
	if g.IntN(1000) < g.errors {
		ty = some(g, []byte("ISB")...)
	}
	if g.IntN(1000) < g.errors {
		return "none"
	}
	if ty == 'I' && g.IntN(1000) < g.bad {
		return some(g, "now()", "random()", "node()")
	}
	form := some(g, map[byte][]string{
		'I': {"1", "n", "25", "I + I", "I * (I - I)", "-I", "len(S)", "getint(S)"},
		'S': {`""`, `"now()"`, "s", "text(I)", "getstr(S)", "S ++ S"},
		'B': {"n == 1", `s < "b"`, "has(S)", "I <= I", "S != S", "B == (B)", "not B", "B and B", "B or B"},
	}[ty]...)
	if levels <= 1 {
		form = map[byte]string{'I': "n", 'S': "s", 'B': "has(s)"}[ty]
	}
	var b strings.Builder
	for _, c := range []byte(form) {
		if strings.IndexByte("ISB", c) >= 0 {
			b.WriteString("(" + g.text(c, levels-1) + ")")
		} else {
			b.WriteByte(c)
		}
	}
	return b.String()
}

// block returns the source of statements of up to this number of levels.
func (g *generator) block(levels int) string {
	text := ""
	for range 1 + g.IntN(4) {
		text += g.stmt(levels)
	}
	return text
}

// stmt returns the source of a statement of up to this number of levels.
func (g *generator) stmt(levels int) string {
	forms := []string{"let X = I;", "let X = S;", "let X = B;", "n = I;", "s = S;", "put S = I;", "put S = S;", "delete S;", "emit I;", "emit S;", "abort 1;", "if B {Y} else {Y}", "if B {Y}", "for X = I to I max 3 {Y}"}
	if levels == 1 {
		forms = forms[:11]
	}
	var b strings.Builder
	for _, c := range []byte(some(g, forms...)) {
		switch c {
		case 'I', 'S', 'B':
			b.WriteString(g.text(c, 1+g.IntN(4)))
		case 'X':
			g.names++
			fmt.Fprintf(&b, "v%d", g.names)
		case 'Y':
			b.WriteString(g.block(levels - 1))
		default:
			b.WriteByte(c)
		}
	}
	return b.String()
}

// proc returns a procedure with the parameters n: int and s: str.
func (g *generator) proc() api.Proc {
	for {
		p, _, e := parser.Proc("proc p(n: int, s: str) {" + g.block(1+g.IntN(4)) + "}")
		if e == api.OK {
			return p
		}
	}
}

// pointers lists the nodes of e.
func pointers(e *api.Expr) []*api.Expr {
	l := []*api.Expr{e}
	for i := range e.Args {
		l = append(l, pointers(&e.Args[i])...)
	}
	return l
}

// pointersIn lists the nodes of all expressions of the statements.
func pointersIn(body []api.Stmt) []*api.Expr {
	var l []*api.Expr
	for i := range body {
		for _, e := range []*api.Expr{&body[i].A, &body[i].B} {
			if e.Op != 0 {
				l = append(l, pointers(e)...)
			}
		}
		l = append(l, pointersIn(body[i].Body)...)
		l = append(l, pointersIn(body[i].Else)...)
	}
	return l
}

// edit changes one node of p to one that may fit there or not.
func (g *generator) edit(p api.Proc) {
	l := pointersIn(p.Body)
	if len(l) == 0 {
		return
	}
	e := some(g, l...)
	switch g.IntN(4) {
	case 0:
		*e = api.Expr{Op: some(g, nondeterministic()...)}
	case 1:
		e.Op = g.IntN(30)
	case 2:
		// One that has as many operands.
		var ops []int
		for op := api.EInt; op <= lastOperator; op++ {
			if ast.Arity(op) == len(e.Args) {
				ops = append(ops, op)
			}
		}
		e.Op = some(g, ops...)
	default:
		e.N = some[int64](g, -1, 0, 1)
	}
}

// randomProcs returns procedures with errors and nondeterministic operators, and without.
func randomProcs(number int) []api.Proc {
	var l []api.Proc
	for i := range number {
		g := newGenerator(uint64(i))
		g.errors, g.bad = i%3*5, i/3%3*50
		p := g.proc()
		if i%4 == 0 {
			g.edit(p)
		}
		l = append(l, p)
	}
	return l
}
