package determinism

import (
	"clockwork/api"
	"math"
	"slices"
	"testing"
)

func TestP12_1Examples(t *testing.T) {
	for src, want := range map[string][2]bool{
		"1 + 2": {true, false}, `getint("a")`: {false, true}, "now()": {false, false},
		"0": {true, false}, `"getint"`: {true, false}, "n": {true, false}, `text(-n) ++ s == "x" and len(s) > 3`: {true, false}, "not (n < m * 2 / 3 % 4) or n - 1 >= m": {true, false},
		"random()": {false, false}, "node()": {false, false}, `getstr("a")`: {false, true}, `has("a")`: {false, true},
		"1 + getint(s)": {false, true}, "-random()": {false, false}, "not has(s)": {false, true}, `"a" ++ text(node())`: {false, false},
		"getint(text(now()))": {false, true}, "len(getstr(s)) + now()": {false, true}, "now() + len(getstr(s))": {false, true}, "now() == random()": {false, false}, "n <= m and has(s) or x": {false, true},
	} {
		checkExpr(t, expr(t, src), want[0], want[1])
	}
}

// operators are all operators, and numbers that are none.
func operators() []int {
	l := []int{math.MinInt, -1 << 32, -25, math.MaxInt, math.MaxInt - 2, 1 << 31, 1 << 32, 1<<32 + 22, 1<<32 + 25, 256 + 22, 256 + 25, 1 << 24, 1 << 25}
	for op := -3; op <= 60; op++ {
		l = append(l, op)
	}
	return l
}

// results returns those of an expression in which only this operator counts.
func results(op int) (pure, reads bool) {
	return op < 22 || op > 27, op >= 22 && op <= 24
}

// TestP12_1Operators has each operator with any fields and numbers of operands.
func TestP12_1Operators(t *testing.T) {
	for _, op := range operators() {
		pure, reads := results(op)
		for number := range 5 {
			args := make([]api.Expr, number)
			for _, e := range []api.Expr{{}, {Op: api.EInt, N: 25}, {Op: api.EStr, S: "now()"}, {Op: api.EVar, S: "getint"}, {Op: 99, N: -22, S: "\x00"}} {
				for i := range args {
					args[i] = e
				}
				checkExpr(t, api.Expr{Op: op, Args: args}, pure, reads)
				checkExpr(t, api.Expr{Op: op, N: 25, S: "now", Args: args}, pure, reads)
				checkExpr(t, api.Expr{Op: op, N: e.N, S: e.S, Args: args}, pure, reads)
			}
		}
	}
	checkExpr(t, api.Expr{}, true, false)
}

// forests returns all lists of trees with this number of nodes together.
func forests(nodes int) [][]api.Expr {
	if nodes == 0 {
		return [][]api.Expr{nil}
	}
	var l [][]api.Expr
	for first := 1; first <= nodes; first++ {
		for _, args := range forests(first - 1) {
			for _, rest := range forests(nodes - first) {
				l = append(l, slices.Concat([]api.Expr{{Args: args}}, rest))
			}
		}
	}
	return l
}

// trees returns all trees with this number of nodes.
func trees(nodes int) []api.Expr {
	var l []api.Expr
	for _, args := range forests(nodes - 1) {
		l = append(l, api.Expr{Args: args})
	}
	return l
}

// withOps returns a copy of the tree, whose nodes have the operators in preorder, and the operators that are left.
func withOps(tree api.Expr, ops []int) (api.Expr, []int) {
	e := api.Expr{Op: ops[0]}
	ops = ops[1:]
	for _, arg := range tree.Args {
		arg, ops = withOps(arg, ops)
		e.Args = append(e.Args, arg)
	}
	return e, ops
}

// TestP12_1Place has one operator at each place of all small trees.
func TestP12_1Place(t *testing.T) {
	count := 0
	for nodes := 1; nodes <= 6; nodes++ {
		for _, tree := range trees(nodes) {
			for _, others := range []int{0, api.EInt, api.EVar, api.EAdd, api.ELen, 21, 28} {
				for i := range nodes {
					for op := range 30 {
						ops := slices.Repeat([]int{others}, nodes)
						ops[i] = op
						e, _ := withOps(tree, ops)
						pure, reads := results(op)
						checkExpr(t, e, pure, reads)
						count++
					}
				}
			}
		}
	}
	if count != (1+1*2+2*3+5*4+14*5+42*6)*7*30 {
		t.Errorf("%d trees are tested", count)
	}
}

// TestP12_1Places has operators at each two places of all small trees.
func TestP12_1Places(t *testing.T) {
	for nodes := 2; nodes <= 6; nodes++ {
		for _, tree := range trees(nodes) {
			for i := range nodes {
				for j := range i {
					for _, a := range slices.Concat(reading(), nondeterministic()) {
						for _, b := range slices.Concat(reading(), nondeterministic()) {
							ops := slices.Repeat([]int{api.ENeg}, nodes)
							ops[i], ops[j] = a, b
							e, _ := withOps(tree, ops)
							checkExpr(t, e, false, a <= 24 || b <= 24)
						}
					}
				}
			}
		}
	}
}

// TestP12_1Levels has as many levels of nesting as the document speaks of.
func TestP12_1Levels(t *testing.T) {
	number := api.Expr{Op: api.EInt}
	for op := api.EInt; op <= lastOperator; op++ {
		pure, reads := results(op)
		for _, around := range []func(e api.Expr) []api.Expr{
			func(e api.Expr) []api.Expr { return []api.Expr{e} },
			func(e api.Expr) []api.Expr { return []api.Expr{number, e} },
			func(e api.Expr) []api.Expr { return []api.Expr{e, number} },
		} {
			e := api.Expr{Op: op}
			for range mostLevels - 1 {
				e = api.Expr{Op: api.EAdd, Args: around(e)}
			}
			// Messages with such an expression would be too long.
			if Pure(e) != pure || Reads(e) != reads {
				t.Fatalf("Pure = %t, Reads = %t with the operator %d", Pure(e), Reads(e), op)
			}
		}
	}
}

// TestP12_1Wide has many operands.
func TestP12_1Wide(t *testing.T) {
	const number = 100000
	e := api.Expr{Op: api.EAdd, Args: slices.Repeat([]api.Expr{{Op: api.EInt}}, number)}
	for _, i := range []int{0, 1, number / 2, number - 2, number - 1} {
		for op := api.EInt; op <= lastOperator; op++ {
			e.Args[i].Op = op
			if pure, reads := results(op); Pure(e) != pure || Reads(e) != reads {
				t.Fatalf("Pure = %t, Reads = %t with the operator %d", Pure(e), Reads(e), op)
			}
		}
		e.Args[i].Op = api.EInt
	}
}

// TestP12_1Sharing has a list that stands in many places of an expression.
func TestP12_1Sharing(t *testing.T) {
	for op := api.EInt; op <= lastOperator; op++ {
		e := api.Expr{Op: op}
		for range mostDepth - 1 {
			e = api.Expr{Op: api.EMul, Args: []api.Expr{e, e}}
		}
		pure, reads := results(op)
		checkExpr(t, e, pure, reads)
	}
}

// TestP12_1Random compares random expressions with the definition, valid or not.
func TestP12_1Random(t *testing.T) {
	counts := map[[2]bool]int{}
	check := func(e api.Expr) {
		reads := hasOneOf(e, reading())
		pure := !reads && !hasOneOf(e, nondeterministic())
		checkExpr(t, e, pure, reads)
		counts[[2]bool{pure, reads}]++
	}
	for _, p := range randomProcs(10000) {
		for _, e := range exprsOf(p.Body) {
			check(e)
		}
	}
	g := newGenerator(1)
	all := trees(7)
	for range 50000 {
		ops := make([]int, 7)
		for i := range ops {
			ops[i] = g.IntN(30 + 30*g.IntN(4))
		}
		e, _ := withOps(some(g, all...), ops)
		check(e)
	}
	for _, x := range [][2]bool{{true, false}, {false, true}, {false, false}} {
		if counts[x] < 2000 {
			t.Errorf("%d expressions have the results %v", counts[x], x)
		}
	}
}
