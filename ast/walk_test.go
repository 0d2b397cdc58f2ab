package ast

import (
	"clockwork/api"
	"math/rand/v2"
	"slices"
	"strings"
	"testing"
)

// checkCounts requires the results of Nodes and Depth, and what checkWalk does.
func checkCounts(t *testing.T, p api.Proc, nodes, depth int) {
	t.Helper()
	if gotNodes, gotDepth := Nodes(p), Depth(p); gotNodes != nodes || gotDepth != depth {
		t.Fatalf("Nodes(%+v) = %d, Depth = %d, want %d, %d", p, gotNodes, gotDepth, nodes, depth)
	}
	checkWalk(t, p)
}

func TestP8_4Examples(t *testing.T) {
	sum := apply(api.EAdd, number(1), variable("x"))
	p := proc(put(text("k"), sum))
	checkCounts(t, p, 5, 1)
	if l := Exprs(p); show(l) != show([]api.Expr{text("k"), sum}) {
		t.Errorf("Exprs = %+v", l)
	}
	if l := Names(p); len(l) != 0 {
		t.Errorf("Names = %q", l)
	}
}

func TestP8_4Counts(t *testing.T) {
	one, two := number(1), apply(api.ENeg, number(1))
	for _, c := range []struct {
		p            api.Proc
		nodes, depth int
	}{
		{api.Proc{}, 0, 0}, {api.Proc{Body: []api.Stmt{}}, 0, 0}, {withParams(params(6)...), 0, 0}, {withParams(params(20)...), 0, 0},
		{proc(abort(1)), 1, 1}, {proc(api.Stmt{}), 1, 1}, {proc(make([]api.Stmt, 7)...), 7, 1}, {proc(emit(one)), 2, 1}, {proc(emit(two)), 3, 1},
		{proc(let("x", two)), 3, 1}, {proc(set("x", two)), 3, 1}, {proc(remove(two)), 3, 1}, {proc(put(one, two)), 4, 1}, {proc(put(two, one)), 4, 1}, {proc(put(two, two)), 5, 1},
		{proc(when(one, nil, nil)), 2, 1}, {proc(when(one, aborts(2), nil)), 4, 2}, {proc(when(one, nil, aborts(2))), 4, 2}, {proc(when(one, aborts(2), aborts(3))), 7, 2},
		{proc(when(one, stmts(when(two, nil, aborts(1))), aborts(1))), 7, 3}, {proc(when(one, aborts(1), stmts(when(two, aborts(1), nil)))), 7, 3},
		{proc(loop("i", one, two, 1)), 4, 1}, {proc(loop("i", one, two, 1, emit(two), abort(1))), 8, 2}, {proc(loop("i", one, one, 1, loop("j", one, one, 1)), abort(1)), 7, 2},
		// Absent expressions have no nodes, whatever the operator; others have, whether they are used or not.
		{proc(emit(api.Expr{})), 1, 1}, {proc(emit(api.Expr{Args: []api.Expr{}})), 1, 1}, {proc(put(api.Expr{}, one)), 2, 1}, {proc(put(one, api.Expr{})), 2, 1},
		{proc(api.Stmt{A: one, B: two}), 4, 1}, {proc(api.Stmt{Op: api.SAbort, A: one, B: two, Body: aborts(1), Else: aborts(2)}), 7, 2}, {proc(api.Stmt{Op: -1, Body: stmts(api.Stmt{Else: make([]api.Stmt, 1)})}), 3, 3},
		{proc(emit(api.Expr{N: 1})), 2, 1}, {proc(emit(api.Expr{N: -1})), 2, 1}, {proc(emit(api.Expr{S: "x"})), 2, 1}, {proc(emit(api.Expr{Op: -1})), 2, 1}, {proc(emit(api.Expr{Args: make([]api.Expr, 1)})), 3, 1},
		{proc(put(api.Expr{N: 1}, api.Expr{S: "x"})), 3, 1}, {proc(put(api.Expr{}, api.Expr{N: 1})), 2, 1}, {proc(put(api.Expr{}, api.Expr{S: "x"})), 2, 1}, {proc(put(api.Expr{}, api.Expr{Args: make([]api.Expr, 2)})), 4, 1},
		// An operand is a node even if it is the zero value.
		{proc(emit(apply(api.EAdd, api.Expr{}, api.Expr{}))), 4, 1}, {proc(emit(apply(api.EAdd, make([]api.Expr, 10)...))), 12, 1},
	} {
		checkCounts(t, c.p, c.nodes, c.depth)
	}
}

// TestP8_4Order has expressions and names whose order is that of the walk.
func TestP8_4Order(t *testing.T) {
	v := variable
	p := api.Proc{Name: "p", Params: []api.Param{param("n1", 1), param("n2", 9), param("n1", 1)}, Body: stmts(
		let("n3", v("a")),
		loop("n4", v("b"), v("c"), 1, let("n5", v("d")), when(v("e"), stmts(let("n6", v("f"))), stmts(loop("n7", v("g"), v("h"), 1))), set("no", v("i"))),
		when(apply(api.EAdd, v("j"), v("no")), stmts(put(v("k"), v("l")), let("n3", v("m"))), stmts(let("N", v("n")), remove(v("o")))),
		api.Stmt{Op: api.SLet, Name: "", B: v("p"), Body: stmts(let("if", v("q"))), Else: stmts(emit(v("r")))},
		api.Stmt{Op: api.SEmit, Name: "no", A: v("s"), B: v("t"), Body: stmts(api.Stmt{Op: 9, Name: "no", A: v("u")})},
		loop("n8", v("v"), v("w"), 1),
	)}
	checkWalk(t, p)
	var got string
	for _, e := range Exprs(p) {
		if e.Op == api.EAdd {
			e = e.Args[0]
		}
		got += e.S
	}
	if got != "abcdefghijklmnopqrstuvw" {
		t.Errorf("Exprs has the variables %q", got)
	}
	if got, want := Names(p), strings.Split("n1 n2 n1 n3 n4 n5 n6 n7 n3 N  if n8", " "); !slices.Equal(got, want) {
		t.Errorf("Names = %q, want %q", got, want)
	}
	if n := Nodes(p); n != 43 {
		t.Errorf("Nodes = %d", n)
	}
	if n := Depth(p); n != 3 {
		t.Errorf("Depth = %d", n)
	}
}

// endings are statements at whose nodes the walk may end. Their names and expressions tell them apart.
func endings() []api.Stmt {
	a, b := apply(api.EAdd, variable("a1"), apply(api.ENeg, variable("a2"))), apply(api.ESub, apply(api.ENeg, variable("b1")), variable("b2"))
	return []api.Stmt{
		abort(1), emit(a), let("y", a), set("y", b), put(a, b), remove(variable("a1")), let("y", number(1)),
		when(a, stmts(let("y", b)), stmts(loop("z", a, b, 3, set("z", a)))), loop("i", a, b, 2, loop("j", b, a, 3, let("k", a), emit(b)), put(a, b)),
		when(number(1), stmts(when(number(2), stmts(when(number(3), aborts(1), nil)), stmts(let("y", a)))), stmts(let("z", b))),
		put(apply(api.ECat, apply(api.EText, number(1)), text("k")), apply(api.EAdd, apply(api.EMul, number(1), number(2)), number(3))),
	}
}

// TestP8_4End moves the end of the walk through all nodes of some statements.
func TestP8_4End(t *testing.T) {
	ends := map[string]int{}
	for _, s := range endings() {
		size := len(walkOf(proc(s)))
		for n := mostNodes - size - 1; n <= mostNodes+2; n++ {
			p := proc(append(aborts(n), s, let("last", number(9)))...)
			whole := n + size + 2
			checkLimit(t, p, whole)
			if got := slices.Contains(Names(p), "last"); got != (n+size <= mostNodes) {
				t.Fatalf("behind %d nodes the name is declared: %t", n+size, got)
			}
			if last := walkOf(p); len(last) > mostNodes {
				ends[kindOf(last[mostNodes], p)]++
			}
		}
	}
	for _, kind := range []string{"statement", "A", "B", "operand"} {
		if ends[kind] < 5 {
			t.Errorf("the walk ends %d times at: %s", ends[kind], kind)
		}
	}
}

// checkLimit requires the number of nodes of a procedure that has no error but for that number.
func checkLimit(t *testing.T, p api.Proc, n int) {
	t.Helper()
	want := api.OK
	if n > mostNodes {
		want = api.ErrLimit
	}
	if nodes, e := Nodes(p), Validate(p); nodes != min(n, mostNodes+1) || e != want {
		t.Fatalf("Nodes = %d and Validate = %d for a procedure of %d nodes: %+v", nodes, e, n, p)
	}
	checkWalk(t, p)
}

// kindOf tells what stands at the place.
func kindOf(x place, p api.Proc) string {
	if x.stmt != nil {
		return "statement"
	}
	for _, y := range stmtPlaces(p.Body, 1) {
		if y.stmt != nil && &y.stmt.A == x.expr {
			return "A"
		}
		if y.stmt != nil && &y.stmt.B == x.expr {
			return "B"
		}
	}
	return "operand"
}

// TestP8_4LastNodes has exactly MaxNodes nodes and one more, of which the last ones are of each kind.
func TestP8_4LastNodes(t *testing.T) {
	one, sum := number(1), apply(api.EAdd, number(1), number(2))
	for _, c := range []struct {
		s    api.Stmt
		size int
	}{
		{abort(1), 1}, {emit(one), 2}, {emit(apply(api.ENeg, one)), 3}, {emit(sum), 4}, {put(one, one), 3}, {put(one, sum), 5}, {put(sum, one), 5}, {loop("i", one, one, 1), 3}, {loop("i", one, sum, 1), 5},
		{when(one, aborts(1), nil), 3}, {when(one, nil, aborts(1)), 3}, {when(one, stmts(emit(one)), stmts(put(one, sum))), 9}, {loop("i", one, one, 1, emit(sum)), 7},
	} {
		for _, n := range []int{mostNodes - 1, mostNodes, mostNodes + 1, mostNodes + 2} {
			checkLimit(t, proc(append(aborts(n-c.size), c.s)...), n)
			// The nodes in front may also stand in other statements.
			checkLimit(t, proc(when(one, aborts(n-2-c.size), stmts(c.s))), n)
			checkLimit(t, proc(loop("i", one, one, 1, append(aborts(n-3-c.size), c.s)...)), n)
			checkLimit(t, proc(when(one, nil, aborts(n-2-c.size)), c.s), n)
		}
	}
	for _, n := range []int{402, 500, 10000} {
		checkLimit(t, proc(aborts(n)...), n)
	}
}

// TestP8_4BehindTheEnd looks for depths, expressions, names and errors at the end of the walk and behind it.
func TestP8_4BehindTheEnd(t *testing.T) {
	one, sum := number(1), apply(api.EAdd, number(1), number(2))
	behind := func(n int, s api.Stmt) api.Proc {
		return proc(append(aborts(n), s)...)
	}
	for n, want := range map[int]int{397: 2, 398: 2, 399: 1, 400: 1, 401: 1, 500: 1} {
		if got := Depth(behind(n, when(one, aborts(1), nil))); got != want {
			t.Errorf("behind %d nodes: Depth = %d, want %d", n, got, want)
		}
		if got := Depth(behind(n, when(one, nil, aborts(1)))); got != want {
			t.Errorf("behind %d nodes: Depth = %d, want %d", n, got, want)
		}
	}
	for n, want := range map[int][]api.Expr{395: {sum, one}, 396: {sum, one}, 397: {sum}, 398: {sum}, 399: {sum}, 400: nil, 401: nil, 500: nil} {
		if got := Exprs(behind(n, put(sum, one))); show(got) != show(want) {
			t.Errorf("behind %d nodes: Exprs = %+v, want %+v", n, got, want)
		}
	}
	for n, want := range map[int]int{398: 2, 399: 2, 400: 1, 401: 0, 500: 0} {
		if got := Names(behind(n, loop("x", api.Expr{}, api.Expr{}, 1, let("y", one)))); !slices.Equal(got, []string{"x", "y"}[:want]) {
			t.Errorf("behind %d nodes: Names = %q", n, got)
		}
	}
	for e, l := range wrongStmts() {
		for _, s := range l {
			checkValidate(t, behind(399, s), e)
			checkValidate(t, behind(400, s), e)
			checkValidate(t, behind(401, s), api.ErrLimit)
			checkValidate(t, behind(500, s), api.ErrLimit)
			checkValidate(t, behind(398, when(one, stmts(s), nil)), e)
			checkValidate(t, behind(399, when(one, stmts(s), nil)), api.ErrLimit)
			checkValidate(t, behind(397, when(one, aborts(1), stmts(s))), e)
			checkValidate(t, behind(398, when(one, aborts(1), stmts(s))), api.ErrLimit)
			checkValidate(t, behind(397, loop("i", one, one, 1, s)), e)
			checkValidate(t, behind(398, loop("i", one, one, 1, s)), api.ErrLimit)
		}
	}
	// The last statement of the walk is checked with all of its expressions.
	full := wrapped(apply(api.EAdd, number(1), variable("X")), 5, wraps()[0])
	checkValidate(t, behind(400, emit(full)), api.ErrName)
	checkValidate(t, behind(400, put(sum, full)), api.ErrName)
	checkValidate(t, behind(400, put(full, number(-1))), api.ErrName)
	checkValidate(t, behind(400, loop("i", sum, number(-1), 1)), api.ErrArg)
	checkValidate(t, behind(401, emit(full)), api.ErrLimit)
}

// generator makes random expressions and statements, of which one of faults is wrong (none if faults is 0).
type generator struct {
	*rand.Rand
	faults int
}

// isFault decides whether the next part is wrong.
func (g generator) isFault() bool {
	return g.faults > 0 && g.IntN(g.faults) == 0
}

// some returns one of the elements.
func some[E any](g generator, l ...E) E {
	return l[g.IntN(len(l))]
}

// expr returns an expression of up to this number of levels.
func (g generator) expr(levels int) api.Expr {
	op := some(g, allOps()...)
	if levels == 1 || g.IntN(4) == 0 {
		op = some(g, api.EInt, api.EStr, api.EVar)
	}
	e := leaf(op)
	for range arities()[op] {
		e.Args = append(e.Args, g.expr(levels-1))
	}
	if op == api.EVar {
		e.S = some(g, "x", "y", "z")
	}
	if !g.isFault() {
		return e
	}
	return some(g, api.Expr{}, api.Expr{Op: op, N: 1, Args: e.Args}, api.Expr{Op: op, S: some(g, "X", "if", "x"), Args: e.Args}, apply(op, append(e.Args, number(1))...), api.Expr{N: 1}, number(-1), variable("X"))
}

// stmts returns lists of up to most statements, nested in up to this number of levels.
func (g generator) stmts(levels, most int) []api.Stmt {
	var l []api.Stmt
	for range g.IntN(most + 1) {
		s := some(g, simpleStmts()...)
		for _, e := range []*api.Expr{&s.A, &s.B} {
			if !isZero(*e) || g.isFault() {
				*e = g.expr(1 + g.IntN(4))
			}
		}
		if uses(s.Op, "Name") || g.isFault() {
			s.Name = some(g, "x", "y", "z", "i")
		}
		if levels > 1 && (uses(s.Op, "Body") || g.isFault()) {
			s.Body = g.stmts(levels-1, most)
		}
		if levels > 1 && (uses(s.Op, "Else") || g.isFault()) {
			s.Else = g.stmts(levels-1, most)
		}
		if g.isFault() {
			s.Op = some(g, 0, 9, api.SLet, api.SFor, api.SEmit)
		}
		l = append(l, s)
	}
	return l
}

// randomProcs returns procedures of all sizes, a part of them valid, and the same ones in each call.
func randomProcs(n int) []api.Proc {
	g := generator{rand.New(rand.NewPCG(8, 4)), 0}
	var l []api.Proc
	for i := range n {
		g.faults = []int{0, 300, 20}[i%3]
		l = append(l, api.Proc{Name: "p", Params: params(i % 4), Body: g.stmts(1+i%7, 1+i%11)})
	}
	return l
}

func TestP8_4Random(t *testing.T) {
	large, counts := 0, map[api.Errno]int{}
	for _, p := range randomProcs(1000) {
		checkWalk(t, p)
		counts[Validate(p)]++
		if len(stmtPlaces(p.Body, 1)) > mostNodes {
			large++
		}
	}
	if large < 50 || counts[api.OK] < 100 || counts[api.ErrArg] < 100 || counts[api.ErrName] < 20 || counts[api.ErrLimit] < 20 {
		t.Errorf("%d procedures are large; their errors are %v", large, counts)
	}
}
