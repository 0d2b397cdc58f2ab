package printer

import (
	"clockwork/api"
	"clockwork/ast"
	"math"
	"slices"
	"strings"
	"testing"
)

// sample is an expression with one operator, and its text.
type sample struct {
	e    api.Expr
	text string
}

var a, b, c = variable("a"), variable("b"), variable("c")

// samples has each operator once.
func samples() []sample {
	return []sample{
		{number(7), "7"}, {text("s"), `"s"`}, {variable("v"), "v"},
		{apply(api.ENow), "now()"}, {apply(api.ERandom), "random()"}, {apply(api.ENode), "node()"},
		{apply(api.EText, a), "text(a)"}, {apply(api.ELen, a), "len(a)"}, {apply(api.EGetInt, a), "getint(a)"},
		{apply(api.EGetStr, a), "getstr(a)"}, {apply(api.EHas, a), "has(a)"}, {apply(api.ENeg, a), "-a"}, {apply(api.ENot, a), "not a"},
		{apply(api.EAdd, a, b), "a + b"}, {apply(api.ESub, a, b), "a - b"}, {apply(api.EMul, a, b), "a * b"},
		{apply(api.EDiv, a, b), "a / b"}, {apply(api.EMod, a, b), "a % b"}, {apply(api.ECat, a, b), "a ++ b"},
		{apply(api.EEq, a, b), "a == b"}, {apply(api.ENe, a, b), "a != b"}, {apply(api.ELt, a, b), "a < b"},
		{apply(api.ELe, a, b), "a <= b"}, {apply(api.EGt, a, b), "a > b"}, {apply(api.EGe, a, b), "a >= b"},
		{apply(api.EAnd, a, b), "a and b"}, {apply(api.EOr, a, b), "a or b"},
	}
}

func TestP9_1Operators(t *testing.T) {
	seen := map[int]bool{}
	for _, x := range samples() {
		checkExpr(t, x.e, x.text)
		seen[x.e.Op] = true
	}
	for op := -1; op <= 30; op++ {
		if seen[op] != (ast.Arity(op) >= 0) {
			t.Errorf("the operator %d is not tested", op)
		}
	}
}

func TestP9_1Examples(t *testing.T) {
	checkExpr(t, apply(api.ESub, apply(api.EMul, apply(api.EAdd, number(1), number(2)), variable("x")), apply(api.ENeg, number(3))), "(1 + 2) * x - -3")
	checkExpr(t, apply(api.ESub, a, apply(api.ESub, b, c)), "a - (b - c)")
	checkExpr(t, apply(api.ESub, apply(api.ESub, a, b), c), "a - b - c")
	checkExpr(t, apply(api.EAdd, apply(api.EGetInt, variable("k")), variable("n")), "getint(k) + n")
}

// enclosed are the operators of the operands that operators put into parentheses.
type enclosed struct {
	ops         []int
	left, right []int
}

// enclosures list, for each operator with operands, all operators that need parentheses.
func enclosures() []enclosed {
	logic := []int{api.EOr, api.EAnd}
	truth := []int{api.EOr, api.EAnd, api.ENot, api.EEq, api.ENe, api.ELt, api.ELe, api.EGt, api.EGe}
	upToCat := []int{api.EOr, api.EAnd, api.ENot, api.EEq, api.ENe, api.ELt, api.ELe, api.EGt, api.EGe, api.ECat}
	upToSum := []int{api.EOr, api.EAnd, api.ENot, api.EEq, api.ENe, api.ELt, api.ELe, api.EGt, api.EGe, api.ECat, api.EAdd, api.ESub}
	upToProduct := []int{api.EOr, api.EAnd, api.ENot, api.EEq, api.ENe, api.ELt, api.ELe, api.EGt, api.EGe, api.ECat, api.EAdd, api.ESub, api.EMul, api.EDiv, api.EMod}
	return []enclosed{
		{[]int{api.EOr}, nil, []int{api.EOr}},
		{[]int{api.EAnd}, []int{api.EOr}, logic},
		{[]int{api.ENot}, logic, nil},
		{[]int{api.EEq, api.ENe, api.ELt, api.ELe, api.EGt, api.EGe}, truth, truth},
		{[]int{api.ECat}, truth, upToCat},
		{[]int{api.EAdd, api.ESub}, upToCat, upToSum},
		{[]int{api.EMul, api.EDiv, api.EMod}, upToSum, upToProduct},
		{[]int{api.ENeg}, upToProduct, nil},
		{[]int{api.EText, api.ELen, api.EGetInt, api.EGetStr, api.EHas}, nil, nil},
	}
}

// operandText returns the text of x as an operand, where these operators need parentheses.
func operandText(x sample, enclosed []int) string {
	if slices.Contains(enclosed, x.e.Op) {
		return "(" + x.text + ")"
	}
	return x.text
}

// enclosureOf returns the line of the operator, which has operands.
func enclosureOf(t *testing.T, op int) enclosed {
	for _, x := range enclosures() {
		if slices.Contains(x.ops, op) {
			return x
		}
	}
	t.Fatalf("there is no line for the operator %d", op)
	return enclosed{}
}

// TestP9_1Parentheses has every operator as each operand of every other one.
func TestP9_1Parentheses(t *testing.T) {
	count := 0
	for _, outer := range samples() {
		if len(outer.e.Args) == 0 {
			continue
		}
		line := enclosureOf(t, outer.e.Op)
		for _, inner := range samples() {
			left, right := operandText(inner, line.left), operandText(inner, line.right)
			if len(outer.e.Args) == 1 {
				at := strings.LastIndex(outer.text, "a")
				checkExpr(t, apply(outer.e.Op, inner.e), outer.text[:at]+left+outer.text[at+1:])
				count++
				continue
			}
			sign := outer.text[1 : len(outer.text)-1]
			checkExpr(t, apply(outer.e.Op, inner.e, b), left+sign+"b")
			checkExpr(t, apply(outer.e.Op, a, inner.e), "a"+sign+right)
			checkExpr(t, apply(outer.e.Op, inner.e, inner.e), left+sign+right)
			count += 3
		}
	}
	if count != 7*27+14*27*3 {
		t.Errorf("%d expressions are tested", count)
	}
}

func TestP9_1Chains(t *testing.T) {
	one := number(1)
	not := func(e api.Expr) api.Expr { return apply(api.ENot, e) }
	neg := func(e api.Expr) api.Expr { return apply(api.ENeg, e) }
	checkExpr(t, neg(neg(one)), "--1")
	checkExpr(t, neg(neg(neg(a))), "---a")
	checkExpr(t, neg(apply(api.EAdd, a, b)), "-(a + b)")
	checkExpr(t, neg(neg(apply(api.EMul, a, b))), "--(a * b)")
	checkExpr(t, neg(not(a)), "-(not a)")
	checkExpr(t, neg(apply(api.ELen, a)), "-len(a)")
	checkExpr(t, not(not(a)), "not not a")
	checkExpr(t, not(neg(a)), "not -a")
	checkExpr(t, not(not(not(apply(api.EOr, a, b)))), "not not not (a or b)")
	checkExpr(t, not(apply(api.EEq, a, b)), "not a == b")
	checkExpr(t, apply(api.EEq, not(a), b), "(not a) == b")
	checkExpr(t, apply(api.EAnd, not(a), not(b)), "not a and not b")
	checkExpr(t, apply(api.EMul, neg(a), neg(b)), "-a * -b")
	checkExpr(t, neg(apply(api.EMul, a, neg(b))), "-(a * -b)")
	checkExpr(t, apply(api.ESub, neg(one), neg(neg(one))), "-1 - --1")
	checkExpr(t, apply(api.EOr, apply(api.EOr, a, b), c), "a or b or c")
	checkExpr(t, apply(api.EOr, a, apply(api.EOr, b, c)), "a or (b or c)")
	checkExpr(t, apply(api.EAnd, apply(api.EAnd, a, b), apply(api.EAnd, b, c)), "a and b and (b and c)")
	checkExpr(t, apply(api.ECat, apply(api.ECat, a, b), apply(api.ECat, b, c)), "a ++ b ++ (b ++ c)")
	checkExpr(t, apply(api.EMod, apply(api.EDiv, apply(api.EMul, a, b), c), a), "a * b / c % a")
	checkExpr(t, apply(api.EMul, a, apply(api.EDiv, b, apply(api.EMod, c, a))), "a * (b / (c % a))")
	checkExpr(t, apply(api.EAdd, apply(api.ESub, a, b), apply(api.EAdd, b, c)), "a - b + (b + c)")
	checkExpr(t, apply(api.ELt, apply(api.ELt, a, b), apply(api.EGe, b, c)), "(a < b) < (b >= c)")
	checkExpr(t, apply(api.EText, apply(api.ELen, apply(api.EGetStr, apply(api.ECat, a, b)))), "text(len(getstr(a ++ b)))")
	checkExpr(t, apply(api.EOr, apply(api.EAnd, not(apply(api.EEq, apply(api.ECat, a, b), c)), a), b), "not a ++ b == c and a or b")
}

// contextsOf returns expressions with e somewhere in them, and nothing else that is wrong.
func contextsOf(e api.Expr) []api.Expr {
	return []api.Expr{
		e, apply(api.ENeg, e), apply(api.ENot, e), apply(api.EHas, e), apply(api.EAdd, e, number(1)), apply(api.EOr, number(1), e), apply(api.ECat, text("a"), apply(api.EText, e)),
		apply(api.ESub, apply(api.EMul, number(1), e), variable("x")), apply(api.EEq, apply(api.ENode), apply(api.ELt, e, apply(api.ENow))), wrapped(e, 10, wraps()[0]), wrapped(e, 11, wraps()[3]),
	}
}

// checkAnywhere requires the text of e, which never needs parentheses, also as an operand, or that no expression with it has a text if want is empty.
func checkAnywhere(t *testing.T, e api.Expr, want string) {
	t.Helper()
	checkExpr(t, e, want)
	for _, outer := range contextsOf(e) {
		if want == "" {
			checkExpr(t, outer, "")
		} else {
			checkExpr(t, outer, textOf(outer))
		}
	}
}

func TestP9_1Numbers(t *testing.T) {
	for n, want := range map[int64]string{
		0: "0", 1: "1", 9: "9", 10: "10", 100: "100", 255: "255", 1 << 31: "2147483648", 1 << 32: "4294967296", 1<<53 + 1: "9007199254740993",
		1e18: "1000000000000000000", math.MaxInt64 - 1: "9223372036854775806", math.MaxInt64: "9223372036854775807",
	} {
		checkAnywhere(t, number(n), want)
		checkExpr(t, apply(api.ENeg, number(n)), "-"+want)
		checkExpr(t, apply(api.EText, number(n)), "text("+want+")")
	}
	for _, n := range []int64{-1, -2, -10, -1 << 31, math.MinInt64 + 1, math.MinInt64} {
		checkAnywhere(t, number(n), "")
	}
}

// everyByte returns the strings of one byte.
func everyByte() []string {
	list := make([]string, 256)
	for i := range list {
		list[i] = string([]byte{byte(i)})
	}
	return list
}

func TestP9_1Strings(t *testing.T) {
	for _, s := range everyByte() {
		want := ""
		switch {
		case s == `"`:
			want = `"\""`
		case s == `\`:
			want = `"\\"`
		case s >= " " && s <= "~":
			want = `"` + s + `"`
		}
		checkAnywhere(t, text(s), want)
		if want != "" {
			want = `"ab` + want[1:len(want)-1] + `c"`
		}
		checkExpr(t, text("ab"+s+"c"), want)
	}
	for s, want := range map[string]string{
		"": `""`, `say "hi"`: `"say \"hi\""`, `\"\`: `"\\\"\\"`, `\n`: `"\\n"`, "{}": `"{}"`, "{": `"{"`, "}": `"}"`, `"{`: `"\"{"`, `\}"`: `"\\}\""`, "# x": `"# x"`, " ": `" "`,
		"a + b": `"a + b"`, "(": `"("`, "1": `"1"`, "let": `"let"`, strings.Repeat("x", 64): `"` + strings.Repeat("x", 64) + `"`,
		strings.Repeat(`"`, 64): `"` + strings.Repeat(`\"`, 64) + `"`, strings.Repeat(`\`, 64): `"` + strings.Repeat(`\\`, 64) + `"`, strings.Repeat("~", 63) + `"`: `"` + strings.Repeat("~", 63) + `\""`,
	} {
		checkAnywhere(t, text(s), want)
	}
	for _, s := range []string{"\n", "a\n", "\x00", "\x7f", "é", "\xff", strings.Repeat("x", mostString+1), strings.Repeat(`"`, mostString+1), strings.Repeat("x", 1000)} {
		checkAnywhere(t, text(s), "")
	}
}

func TestP9_1Names(t *testing.T) {
	long := strings.Repeat("k", mostName)
	for _, s := range []string{"a", "z", "a9", "a_", "nota", "lets", "orand", "now1", "text_", long} {
		checkAnywhere(t, variable(s), s)
		checkExpr(t, apply(api.ENeg, variable(s)), "-"+s)
		checkExpr(t, apply(api.ENot, variable(s)), "not "+s)
		checkExpr(t, apply(api.EOr, variable(s), variable(s)), s+" or "+s)
	}
	for _, s := range []string{"", "A", "1", "_a", "a b", "a\n", "-a", "let", "not", "node", "now", "é", long + "k"} {
		checkAnywhere(t, variable(s), "")
	}
}

// wraps returns the ways in which an expression can be an operand.
func wraps() []func(e api.Expr) api.Expr {
	var l []func(e api.Expr) api.Expr
	for op := api.EInt; op <= api.ENode; op++ {
		switch ast.Arity(op) {
		case 1:
			l = append(l, func(e api.Expr) api.Expr { return apply(op, e) })
		case 2:
			l = append(l, func(e api.Expr) api.Expr { return apply(op, e, number(1)) }, func(e api.Expr) api.Expr { return apply(op, variable("x"), e) })
		}
	}
	return l
}

// wrapped returns e inside of n operators.
func wrapped(e api.Expr, n int, wrap func(e api.Expr) api.Expr) api.Expr {
	for range n {
		e = wrap(e)
	}
	return e
}

// TestP9_1Depth nests expressions of up to MaxDepth levels and of more in every operand of every operator.
func TestP9_1Depth(t *testing.T) {
	for i, wrap := range wraps() {
		other := wraps()[(i+7)%len(wraps())]
		for _, end := range []api.Expr{number(1), text("a"), variable("x"), apply(api.ENow)} {
			for depth := 1; depth <= mostDepth+2; depth++ {
				e, mixed := wrapped(end, depth-1, wrap), wrapped(wrapped(end, depth/2, wrap), depth-1-depth/2, other)
				if depth <= mostDepth {
					checkExpr(t, e, textOf(e))
					checkExpr(t, mixed, textOf(mixed))
				} else {
					checkExpr(t, e, "")
					checkExpr(t, mixed, "")
				}
			}
		}
	}
	neg := func(e api.Expr) api.Expr { return apply(api.ENeg, e) }
	checkExpr(t, wrapped(number(1), 11, neg), "-----------1")
	checkExpr(t, wrapped(number(1), 12, neg), "")
	checkExpr(t, wrapped(number(1), 11, func(e api.Expr) api.Expr { return apply(api.ESub, a, e) }), strings.Repeat("a - (", 10)+"a - 1"+strings.Repeat(")", 10))
	checkExpr(t, wrapped(number(1), 11, func(e api.Expr) api.Expr { return apply(api.ESub, e, a) }), "1"+strings.Repeat(" - a", 11))
}

// TestP9_1Large prints the largest expressions that are valid.
func TestP9_1Large(t *testing.T) {
	for _, op := range []int{api.EAdd, api.ESub, api.EAnd, api.ECat, api.EEq, api.EMod} {
		e := text(strings.Repeat(`"`, mostString))
		for range mostDepth - 1 {
			e = apply(op, e, e)
		}
		want := textOf(e)
		if len(want) < 1<<18 {
			t.Errorf("the text has only %d bytes", len(want))
		}
		checkExpr(t, e, want)
		checkExpr(t, apply(op, e, number(1)), "")
		checkExpr(t, apply(api.ENot, e), "")
	}
}

// wrongNodes returns nodes with each error that is not the depth.
func wrongNodes() []api.Expr {
	one, two := []api.Expr{number(1)}, []api.Expr{number(1), number(2)}
	l := []api.Expr{
		{}, {Op: 28}, {Op: -1}, {Op: 28, Args: two}, {Op: math.MaxInt, Args: one}, {Op: math.MinInt}, {N: 1}, {S: "x"}, {Args: one},
		{Op: api.EInt, N: -1}, {Op: api.EInt, S: "x"}, {Op: api.EInt, Args: one}, {Op: api.EStr, N: 1}, {Op: api.EStr, S: "\n"}, {Op: api.EStr, S: strings.Repeat("x", 65)}, {Op: api.EStr, Args: one},
		{Op: api.EVar, S: "x", N: 1}, {Op: api.EVar, S: "x", Args: one}, {Op: api.EVar}, {Op: api.EVar, S: "X"}, {Op: api.EVar, S: "let"}, {Op: api.EVar, S: strings.Repeat("x", 17)},
	}
	for op := api.EInt; op <= api.ENode; op++ {
		for n := range 5 {
			e := api.Expr{Op: op, Args: []api.Expr{number(1), number(2), number(3), number(4)}[:n]}
			if op == api.EVar {
				e.S = "x"
			}
			if n != ast.Arity(op) {
				l = append(l, e)
				continue
			}
			if op != api.EInt {
				l = append(l, api.Expr{Op: op, N: 1, S: e.S, Args: e.Args}, api.Expr{Op: op, N: -1, S: e.S, Args: e.Args})
			}
			if op != api.EStr && op != api.EVar {
				l = append(l, api.Expr{Op: op, N: e.N, S: "x", Args: e.Args})
			}
		}
	}
	return l
}

// TestP9_1NotValid has wrong nodes at the root, as each operand, and at all depths.
func TestP9_1NotValid(t *testing.T) {
	for _, x := range wrongNodes() {
		checkAnywhere(t, x, "")
		for _, wrap := range wraps() {
			for _, depth := range []int{1, 2, 10, 11, 12, 13} {
				checkExpr(t, wrapped(x, depth, wrap), "")
			}
		}
	}
}

// smallExprs returns all expressions of up to this number of levels, with these leaves.
func smallExprs(levels int, leaves ...api.Expr) []api.Expr {
	if levels == 1 {
		return leaves
	}
	operands := smallExprs(levels-1, leaves...)
	l := append([]api.Expr{}, leaves...)
	for op := api.EInt; op <= api.ENode; op++ {
		for _, x := range operands {
			switch ast.Arity(op) {
			case 1:
				l = append(l, apply(op, x))
			case 2:
				for _, y := range operands {
					l = append(l, apply(op, x, y))
				}
			}
		}
	}
	return l
}

// TestP9_1AllSmall compares all small expressions with the definition, and with one another.
func TestP9_1AllSmall(t *testing.T) {
	seen := map[string]bool{}
	leaves := []api.Expr{number(0), text(""), variable("x"), apply(api.ENow), apply(api.ERandom), apply(api.ENode)}
	all := append(smallExprs(3, number(1), text(`"`)), smallExprs(2, leaves...)...)
	for _, e := range all {
		want := textOf(e)
		checkExpr(t, e, want)
		if seen[want] {
			t.Fatalf("%q is the text of two expressions", want)
		}
		seen[want] = true
	}
	if len(all) != 2+7*72+14*72*72+6+7*6+14*36 {
		t.Errorf("%d expressions are tested", len(all))
	}
}
