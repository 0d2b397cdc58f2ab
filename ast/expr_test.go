package ast

import (
	"clockwork/api"
	"math"
	"slices"
	"strings"
	"testing"
)

// strangeOps are numbers that are no operator of expressions, nor one of statements.
func strangeOps() []int {
	return []int{0, -1, -2, -27, 28, 29, 30, 31, 32, 64, 100, 256 + api.EAdd, 1<<32 + api.EAdd, math.MinInt, math.MaxInt}
}

func allOps() []int {
	var l []int
	for op := range arities() {
		l = append(l, op)
	}
	slices.Sort(l)
	return l
}

func TestP8_1Arity(t *testing.T) {
	for op, want := range arities() {
		if got := Arity(op); got != want {
			t.Errorf("Arity(%d) = %d, want %d", op, got, want)
		}
	}
	for _, op := range strangeOps() {
		if got := Arity(op); got != -1 {
			t.Errorf("Arity(%d) = %d, want -1", op, got)
		}
	}
	for op := -1000; op <= 1000; op++ {
		if got := Arity(op); (got == -1) != (op < 1 || op > 27) {
			t.Errorf("Arity(%d) = %d", op, got)
		}
	}
}

func TestP8_2Examples(t *testing.T) {
	checkExpr(t, number(-1), api.ErrArg)
	checkExpr(t, apply(api.ENeg, number(1)), api.OK)
	checkExpr(t, apply(api.EAdd, number(1), variable("x")), api.OK)
	checkExpr(t, apply(api.ENeg, number(-1)), api.ErrArg)
	checkExpr(t, api.Expr{}, api.ErrArg)
	checkExpr(t, api.Expr{Args: []api.Expr{}}, api.ErrArg)
}

// contextsOf returns expressions with e somewhere in them, in which there is no other error.
func contextsOf(e api.Expr) []api.Expr {
	return []api.Expr{
		apply(api.ENeg, e), apply(api.EHas, e), apply(api.EAdd, e, number(1)), apply(api.EOr, number(1), e), apply(api.ECat, text("a"), apply(api.EText, e)),
		apply(api.ESub, apply(api.EMul, number(1), e), variable("x")), apply(api.EEq, apply(api.ENode), apply(api.ELt, e, apply(api.ENow))),
	}
}

// checkExprAnywhere requires that e has the error as an expression, and as an operand.
func checkExprAnywhere(t *testing.T, e api.Expr, want api.Errno) {
	t.Helper()
	checkExpr(t, e, want)
	for _, outer := range contextsOf(e) {
		checkExpr(t, outer, want)
	}
}

// TestP8_2Operators gives every operator no to five operands, and each field that it does not use.
func TestP8_2Operators(t *testing.T) {
	operands := []api.Expr{number(1), text("a"), variable("x"), apply(api.ENow), number(2)}
	for _, op := range allOps() {
		for n := range len(operands) + 1 {
			e := leaf(op)
			e.Args = operands[:n]
			want := api.ErrArg
			if n == arities()[op] {
				want = api.OK
			}
			checkExprAnywhere(t, e, want)
		}
		checkExpr(t, simple(op), api.OK)
		for _, n := range []int64{1, -1, 2, math.MaxInt64, math.MinInt64, 1 << 32} {
			e := simple(op)
			e.N = n
			want := api.ErrArg
			if op == api.EInt && n > 0 {
				want = api.OK
			}
			checkExprAnywhere(t, e, want)
		}
		for _, s := range []string{"y", "X", "let", " ", "0", "\x00", strings.Repeat("k", 100)} {
			e := simple(op)
			e.S = s
			if op != api.EStr && op != api.EVar {
				checkExprAnywhere(t, e, api.ErrArg)
			}
			checkExprAnywhere(t, e, exprErrorOf(e))
		}
	}
	for _, op := range strangeOps() {
		for _, e := range []api.Expr{{Op: op}, {Op: op, N: 1}, {Op: op, S: "x"}, {Op: op, Args: operands[:1]}, {Op: op, Args: operands[:2]}, {Op: op, N: -1, S: "\n", Args: operands}} {
			checkExprAnywhere(t, e, api.ErrArg)
		}
	}
}

func TestP8_2Numbers(t *testing.T) {
	for _, n := range []int64{0, 1, 9, 10, 255, 1 << 31, 1 << 32, 1 << 53, math.MaxInt64 - 1, math.MaxInt64} {
		checkExprAnywhere(t, number(n), api.OK)
	}
	for _, n := range []int64{-1, -2, -10, -1 << 31, -1 << 32, math.MinInt64 + 1, math.MinInt64} {
		checkExprAnywhere(t, number(n), api.ErrArg)
	}
}

// everyByte returns the strings of one byte.
func everyByte() []string {
	list := make([]string, 256)
	for i := range list {
		list[i] = string([]byte{byte(i)})
	}
	return list
}

// TestP8_2Strings puts every byte at the places of strings of up to MaxStr bytes and of one more.
func TestP8_2Strings(t *testing.T) {
	count := 0
	for _, b := range everyByte() {
		want := api.ErrArg
		if b >= " " && b <= "~" {
			want = api.OK
			count++
		}
		checkExprAnywhere(t, text(b), want)
		for _, before := range []int{0, 1, 31, 62, 63} {
			checkExpr(t, text(strings.Repeat("k", before)+b+strings.Repeat("k", 63-before)), want)
			checkExpr(t, text(strings.Repeat(`"`, before)+b), want)
			checkExpr(t, text(strings.Repeat("k", before)+b+strings.Repeat("k", 64-before)), api.ErrArg)
		}
	}
	if count != 95 {
		t.Errorf("%d bytes are valid", count)
	}
	for n := range 100 {
		want := api.OK
		if n > mostString {
			want = api.ErrArg
		}
		for _, s := range []string{"x", `"`, `\`, " ", "~"} {
			checkExpr(t, text(strings.Repeat(s, n)), want)
		}
	}
	for _, s := range []string{"let", "if", "X", "0", "a b", "# x", `say "hi"`, `\n`, "nil", strings.Repeat("k", mostName+1)} {
		checkExprAnywhere(t, text(s), api.OK)
	}
	for _, s := range []string{"é", "日本", "a\n", "\na", strings.Repeat("\n", 65), strings.Repeat("x", 65), strings.Repeat("x", 1000)} {
		checkExprAnywhere(t, text(s), api.ErrArg)
	}
}

// TestP8_2Names puts every byte at the places of names of up to MaxName bytes and of one more.
func TestP8_2Names(t *testing.T) {
	for _, b := range everyByte() {
		for before := range mostName + 1 {
			for behind := range mostName + 1 - before {
				s := strings.Repeat("k", before) + b + strings.Repeat("k", behind)
				want := api.ErrName
				if len(s) <= 16 && strings.Contains(wordBytes, b) && (before > 0 || strings.Contains(letters, b)) {
					want = api.OK
				}
				checkExpr(t, variable(s), want)
			}
		}
	}
	long := strings.Repeat("k", mostName)
	for _, s := range []string{"a", "z9_", "lets", "proc1", "nil", "true", long, long[1:] + "_"} {
		checkExprAnywhere(t, variable(s), api.OK)
	}
	for _, s := range append(allKeywords(), "", "_", "_a", "1a", "A", "aB", " a", "a ", "é", "a\n", "+", long+"k", long+"_", strings.Repeat("k", 1000)) {
		checkExprAnywhere(t, variable(s), api.ErrName)
	}
}

// wraps returns the ways in which an expression can be an operand.
func wraps() []func(e api.Expr) api.Expr {
	var l []func(e api.Expr) api.Expr
	for _, op := range allOps() {
		if arities()[op] == 1 {
			l = append(l, func(e api.Expr) api.Expr { return apply(op, e) })
		}
		if arities()[op] == 2 {
			l = append(l, func(e api.Expr) api.Expr { return apply(op, e, number(1)) }, func(e api.Expr) api.Expr { return apply(op, variable("x"), e) })
		}
	}
	return l
}

// wrapped returns e inside of n operators.
func wrapped(e api.Expr, n int, wrap func(e api.Expr) api.Expr) api.Expr {
	for range n {
		e = wrap(e)
	}
	return e
}

// TestP8_2Depth nests expressions of up to MaxDepth levels and of more in every operand of every operator.
func TestP8_2Depth(t *testing.T) {
	for i, wrap := range wraps() {
		for _, end := range []api.Expr{number(1), text("a"), variable("x"), apply(api.ENow), apply(api.ERandom), apply(api.ENode)} {
			for depth := 1; depth <= mostDepth+2; depth++ {
				want := api.OK
				if depth > mostDepth {
					want = api.ErrLimit
				}
				checkExpr(t, wrapped(end, depth-1, wrap), want)
			}
		}
		other := wraps()[(i+7)%len(wraps())]
		checkExpr(t, wrapped(wrapped(number(1), 5, wrap), 6, other), api.OK)
		checkExpr(t, wrapped(wrapped(number(1), 5, wrap), 7, other), api.ErrLimit)
		checkExpr(t, wrapped(wrapped(number(1), 6, wrap), 6, other), api.ErrLimit)
	}
	var both api.Expr
	for i := range mostDepth {
		if both = apply(api.EAdd, both, both); i == 0 {
			both = number(1)
		}
	}
	checkExpr(t, both, api.OK)
	checkExpr(t, apply(api.EAdd, both, number(1)), api.ErrLimit)
	checkExpr(t, apply(api.EAdd, number(1), both), api.ErrLimit)
}

// wrongNodes returns nodes with one error, and those with two errors of one node, of which the first one counts.
func wrongNodes() map[api.Errno][]api.Expr {
	long := strings.Repeat("x", mostString+1)
	one, two := []api.Expr{number(1)}, []api.Expr{number(1), number(2)}
	return map[api.Errno][]api.Expr{
		api.ErrArg: {
			{}, {Op: 28}, {Op: -1}, {Op: 28, Args: two}, {Op: api.EInt, N: -1}, {Op: api.EInt, S: "x"}, {Op: api.EStr, N: 1}, {Op: api.EStr, S: "\n"}, {Op: api.EStr, S: long},
			{Op: api.EVar, S: "x", N: 1}, {Op: api.EVar, S: "x", Args: one}, {Op: api.EAdd}, {Op: api.EAdd, Args: one}, {Op: api.ENeg}, {Op: api.ENeg, Args: two}, {Op: api.ENow, Args: one}, {Op: api.ENow, S: "x"}, {Op: api.ENeg, Args: one, N: 1},
			// A wrong field comes before a name, and everything else is ErrArg, too.
			{Op: api.EVar, S: "X", N: 1}, {Op: api.EVar, N: -1}, {Op: api.EVar, S: "let", N: 1, Args: one}, {Op: api.EInt, N: -1, Args: one}, {Op: api.EStr, S: "\n", Args: two},
		},
		api.ErrName: {
			{Op: api.EVar}, {Op: api.EVar, S: "X"}, {Op: api.EVar, S: "let"}, {Op: api.EVar, S: strings.Repeat("x", mostName+1)},
			// A name comes before the number of operands, and before the operands.
			{Op: api.EVar, S: "X", Args: one}, {Op: api.EVar, S: "let", Args: two}, {Op: api.EVar, Args: []api.Expr{number(-1)}}, {Op: api.EVar, S: "\xff", Args: []api.Expr{{}}},
		},
	}
}

// TestP8_2FirstError puts two errors into one expression.
func TestP8_2FirstError(t *testing.T) {
	limit := wrapped(number(1), mostDepth+1, wraps()[0])
	for e, l := range wrongNodes() {
		for _, x := range l {
			checkExprAnywhere(t, x, e)
			for otherE, others := range wrongNodes() {
				for _, y := range others {
					checkExpr(t, apply(api.EAdd, x, y), e)
					checkExpr(t, apply(api.EAdd, y, x), otherE)
					checkExpr(t, apply(api.EAdd, apply(api.ENeg, apply(api.ENeg, x)), y), e)
					checkExpr(t, apply(api.EAdd, apply(api.ESub, number(1), x), apply(api.ESub, y, number(1))), e)
					// The error of a node comes before those of its operands.
					checkExpr(t, apply(api.EVar, y), api.ErrName)
					checkExpr(t, apply(api.ENot, x, y), api.ErrArg)
					checkExpr(t, apply(api.EMul, y), api.ErrArg)
					checkExpr(t, apply(28, x, y), api.ErrArg)
				}
			}
			checkExpr(t, apply(api.EAdd, x, limit), e)
			checkExpr(t, apply(api.EAdd, limit, x), api.ErrLimit)
		}
	}
}

// TestP8_2DepthAndErrors has errors at the depth MaxDepth, one more, and two more.
func TestP8_2DepthAndErrors(t *testing.T) {
	for e, l := range wrongNodes() {
		for _, x := range l {
			for _, wrap := range wraps() {
				// In front of a second operand, there is a first one that is too deep.
				want := e
				if wrap(text("mark")).Args[0].S != "mark" {
					want = api.ErrLimit
				}
				checkExpr(t, wrapped(x, mostDepth-1, wrap), e)
				checkExpr(t, wrapped(x, mostDepth, wrap), want)
				checkExpr(t, wrapped(x, mostDepth+1, wrap), api.ErrLimit)
			}
			// The first operand is too deep; the second one is also wrong.
			checkExpr(t, wrapped(apply(api.EAdd, number(1), x), mostDepth-1, wraps()[0]), api.ErrLimit)
			checkExpr(t, wrapped(apply(api.EAdd, number(1), x), mostDepth-2, wraps()[0]), e)
			checkExpr(t, wrapped(apply(api.EAdd, x, number(1)), mostDepth-1, wraps()[0]), e)
		}
	}
}

// someNodes are nodes without their operands, valid ones and others.
func someNodes() []api.Expr {
	return []api.Expr{
		{}, number(1), number(-1), text("a"), text("\n"), variable("x"), variable("X"), {Op: api.EVar, S: "x", N: 1}, {Op: api.EStr, N: 2}, {Op: api.EInt, S: "y"},
		{Op: api.ENow}, {Op: api.ENow, N: 1}, {Op: api.ENeg}, {Op: api.ENeg, S: "x"}, {Op: api.EAdd}, {Op: api.EAdd, N: -1}, {Op: 28}, {Op: -1, N: 1, S: "X"},
	}
}

// eachArgs calls f for all lists of up to most of the expressions.
func eachArgs(l []api.Expr, most int, f func(args []api.Expr)) {
	f(nil)
	if most == 0 {
		return
	}
	for _, e := range l {
		eachArgs(l, most-1, func(args []api.Expr) { f(append(slices.Clone(args), e)) })
	}
}

// TestP8_2AllSmall compares ValidExpr with the definition for all expressions of some nodes with up to three operands, and some with operands of operands.
func TestP8_2AllSmall(t *testing.T) {
	counts := map[api.Errno]int{}
	check := func(e api.Expr) {
		want := exprErrorOf(e)
		if got := ValidExpr(e); got != want {
			t.Fatalf("ValidExpr(%+v) = %d, want %d", e, got, want)
		}
		counts[want]++
	}
	for _, root := range someNodes() {
		eachArgs(someNodes(), 3, func(args []api.Expr) {
			e := root
			e.Args = args
			check(e)
			check(apply(api.ENeg, e))
			if len(args) < 3 {
				check(apply(api.EAdd, e, number(1)))
				check(apply(api.EAdd, number(1), e))
				check(apply(api.EAdd, e, variable("X")))
				check(apply(api.EAdd, e, number(-1)))
				check(apply(api.EAdd, variable("X"), e))
			}
		})
	}
	for e, least := range map[api.Errno]int{api.OK: 50, api.ErrArg: 1000, api.ErrName: 1000} {
		if counts[e] < least {
			t.Errorf("%d expressions have the error %d", counts[e], e)
		}
	}
}
