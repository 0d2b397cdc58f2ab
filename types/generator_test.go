package types

import (
	"clockwork/api"
	"fmt"
	"math/rand/v2"
	"slices"
	"strings"
	"testing"
)

// generator makes random expressions and procedures.
type generator struct {
	*rand.Rand
	errors   int // in a hundred places, on average
	declared int // variables so far
}

// newGenerator returns a generator that makes the same things each time.
func newGenerator(seed uint64) *generator {
	return &generator{Rand: rand.New(rand.NewPCG(11, seed))}
}

// some returns one of the elements.
func some[E any](g *generator, l ...E) E {
	return l[g.IntN(len(l))]
}

// errs tells whether there is an error in the next place.
func (g *generator) errs() bool {
	return g.IntN(100) < g.errors
}

// name returns a name that may be that of any variable, or of none.
func (g *generator) name() string {
	return some(g, "a", "b", "c", "n", "s", "none", "X", fmt.Sprintf("v%d", g.IntN(g.declared+1)), fmt.Sprintf("i%d", g.IntN(g.declared+1)))
}

// fresh returns a name that begins with the letter and is not declared yet.
func (g *generator) fresh(letter string) string {
	if g.errs() {
		return g.name()
	}
	g.declared++
	return fmt.Sprintf("%s%d", letter, g.declared)
}

// params returns parameters, which need not have different names.
func (g *generator) params() []api.Param {
	var l []api.Param
	for range g.IntN(7) {
		l = append(l, param(some(g, "a", "b", "c", "d"), 1+g.IntN(3)))
		if g.errs() {
			l[len(l)-1].Type = some(g, 0, 4, -1)
		}
	}
	return l
}

// variable returns a variable of the type, if there is one.
func (g *generator) variable(ty int, visible []api.Param) (api.Expr, bool) {
	if g.errs() {
		return api.Expr{Op: api.EVar, S: g.name()}, true
	}
	var names []string
	for i, x := range visible {
		isSame := func(y api.Param) bool { return y.Name == x.Name }
		if x.Type == ty && !slices.ContainsFunc(visible[:i], isSame) {
			names = append(names, x.Name)
		}
	}
	if len(names) == 0 {
		return api.Expr{}, false
	}
	return api.Expr{Op: api.EVar, S: some(g, names...)}, true
}

// expr returns an expression of the type, of up to this number of levels, or one more.
func (g *generator) expr(ty, levels int, visible []api.Param) api.Expr {
	if g.errs() {
		ty = 1 + g.IntN(3)
	}
	if e, ok := g.variable(ty, visible); ok && (levels <= 1 || g.IntN(4) == 0) {
		return e
	}
	if levels <= 1 {
		return g.constant(ty)
	}
	var ops []int
	for op := api.EInt; op <= api.ENode; op++ {
		hasResult := func(signature string) bool { return strings.HasSuffix(signature, "-> "+typeNames[ty]) }
		if slices.ContainsFunc(signatures[op], hasResult) {
			ops = append(ops, op)
		}
	}
	e := api.Expr{Op: some(g, ops...)}
	operands, _, _ := strings.Cut(some(g, signatures[e.Op]...), "->")
	for _, name := range strings.Fields(operands) {
		e.Args = append(e.Args, g.expr(typeNumbers[name], levels-1, visible))
	}
	if g.IntN(1000) < g.errors {
		e.N = some[int64](g, -1, 1)
	}
	return e
}

// constant returns an expression of the type without variables.
func (g *generator) constant(ty int) api.Expr {
	integer, str := api.Expr{Op: api.EInt, N: int64(g.IntN(3))}, api.Expr{Op: api.EStr, S: some(g, "", "n", "a b")}
	switch ty {
	case 1:
		return integer
	case 2:
		return str
	default:
		return some(g, api.Expr{Op: api.EHas, Args: []api.Expr{str}}, api.Expr{Op: api.ELe, Args: []api.Expr{integer, integer}})
	}
}

// block returns statements in up to this number of levels, in which the variables are visible.
func (g *generator) block(levels int, visible []api.Param) []api.Stmt {
	var l []api.Stmt
	for range g.IntN(7) {
		s, declared := g.stmt(levels, visible)
		l = append(l, s)
		visible = slices.Concat(visible, declared)
	}
	return l
}

// stmt returns a statement, and the variables that are visible behind it in its list, in addition to the others.
func (g *generator) stmt(levels int, visible []api.Param) (api.Stmt, []api.Param) {
	of := func(ty int) api.Expr { return g.expr(ty, 1+g.IntN(4), visible) }
	ops := []int{api.SLet, api.SLet, api.SSet, api.SPut, api.SDelete, api.SEmit, api.SAbort, api.SIf, api.SFor}
	if levels == 1 {
		ops = ops[:7]
	}
	s := api.Stmt{Op: some(g, ops...)}
	switch s.Op {
	case api.SLet:
		ty := 1 + g.IntN(3)
		s.A, s.Name = of(ty), g.fresh("v")
		return s, []api.Param{param(s.Name, ty)}
	case api.SSet:
		isLoop := func(x api.Param) bool { return strings.HasPrefix(x.Name, "i") }
		variables := slices.DeleteFunc(slices.Clone(visible), isLoop)
		if g.errs() || len(variables) == 0 {
			s.Name, s.A = g.name(), of(1+g.IntN(3))
		} else {
			v := some(g, variables...)
			s.Name, s.A = v.Name, of(v.Type)
		}
	case api.SPut:
		s.A, s.B = of(2), of(1+g.IntN(2))
	case api.SDelete:
		s.A = of(2)
	case api.SEmit:
		s.A = of(1 + g.IntN(2))
	case api.SAbort:
		s.Max = g.IntN(1000)
	case api.SIf:
		s.A, s.Body, s.Else = of(3), g.block(levels-1, visible), g.block(levels-1, visible)
	case api.SFor:
		s.A, s.B, s.Max, s.Name = of(1), of(1), 1+g.IntN(16), g.fresh("i")
		s.Body = g.block(levels-1, append(slices.Clone(visible), param(s.Name, 1)))
	}
	return s, nil
}

// proc returns a procedure.
func (g *generator) proc() api.Proc {
	g.declared = 0
	p := api.Proc{Name: "p", Params: []api.Param{param("n", 1), param("s", 2), param("a", 1+g.IntN(2))}[:g.IntN(4)]}
	p.Body = g.block(1+g.IntN(4), p.Params)
	return p
}

// stmtsOf lists all statements of the body, also those in others.
func stmtsOf(body []api.Stmt) []*api.Stmt {
	var l []*api.Stmt
	for i := range body {
		l = append(l, &body[i])
		l = append(l, stmtsOf(body[i].Body)...)
		l = append(l, stmtsOf(body[i].Else)...)
	}
	return l
}

// edit changes one thing of p, which has statements.
func (g *generator) edit(p *api.Proc) {
	l := stmtsOf(p.Body)
	s, other := some(g, l...), some(g, l...)
	e := some(g, leavesFirst(some(g, &s.A, &s.B))...)
	switch g.IntN(12) {
	case 0:
		s.Op = 1 + g.IntN(8)
	case 1:
		s.A, s.B = s.B, s.A
	case 2:
		s.Name = g.name()
	case 3:
		s.Name, other.Name = other.Name, s.Name
	case 4:
		s.A, other.A = other.A, s.A
	case 5:
		s.Body, s.Else = s.Else, s.Body
	case 6:
		// A statement can't be put into itself.
		a, b := *s, *other
		a.Body, a.Else, b.Body, b.Else = b.Body, b.Else, a.Body, a.Else
		*s, *other = b, a
	case 7:
		i, j := g.IntN(len(p.Body)), g.IntN(len(p.Body))
		p.Body[i], p.Body[j] = p.Body[j], p.Body[i]
	case 8:
		e.Op = some(g, e.Op+1, e.Op-1, 1+g.IntN(27))
	case 9:
		*e = api.Expr{Op: api.EVar, S: g.name()}
	case 10:
		*e = g.constant(1 + g.IntN(3))
	default:
		p.Params = append(p.Params, param(g.name(), 1+g.IntN(3)))
	}
}

// randomProcs returns procedures, most of them with an error or without.
func randomProcs(number int) []api.Proc {
	var list []api.Proc
	for i := range number {
		g := newGenerator(uint64(i))
		g.errors = i % 3
		p := g.proc()
		if i%2 == 0 && len(p.Body) > 0 {
			g.edit(&p)
		}
		list = append(list, p)
	}
	return list
}

// TestP11_2Random compares random procedures with the definition.
func TestP11_2Random(t *testing.T) {
	counts := map[api.Errno]int{}
	for _, p := range randomProcs(30000) {
		e, _ := definedCheck(p)
		checkProc(t, p, e)
		counts[e]++
	}
	for _, e := range []api.Errno{api.OK, api.ErrArg, api.ErrName, api.ErrDuplicate, api.ErrType, api.ErrUnassigned} {
		if counts[e] < 300 {
			t.Errorf("%d procedures have the error %d", counts[e], e)
		}
	}
}
