package types

import (
	"clockwork/api"
	"clockwork/ast"
	"fmt"
	"math"
	"slices"
	"strings"
	"testing"
)

// allTypes returns a variable of each type, variables of no type, and some of their names once more with another type.
func allTypes() []api.Param {
	return []api.Param{
		param("n", 1), param("s", 2), param("b", 3), param("z", 4), param("n", 2), param("s", 3), param("b", 1), param("z", 1), param("m", 1), param("r", 2), param("c", 3), param("n", 0),
	}
}

func TestP11_1Examples(t *testing.T) {
	checkOf(t, expr(t, `1 + "a"`), nil, 0, api.ErrType)
	checkOf(t, expr(t, `x + "a"`), nil, 0, api.ErrUnassigned)
	checkOf(t, expr(t, `x + "a"`), allTypes(), 0, api.ErrUnassigned)
	for src, want := range map[string]int{
		"0": 1, "9223372036854775807": 1, `""`: 2, `"1"`: 2, "now()": 1, "random()": 1, "node()": 1, "n": 1, "s": 2, "b": 3,
		"n + 1": 1, "n - m": 1, "-n * 2": 1, "n / 0": 1, "n % m": 1, "--n": 1,
		"n == 1": 3, `s == "a"`: 3, `b == has("k")`: 3, "n != m": 3, "s != r": 3, "b != c": 3,
		"n < 1": 3, "s < r": 3, "n <= m": 3, `s <= ""`: 3, "n > 2": 3, "s > r": 3, "n >= m": 3, "s >= s": 3,
		"b and c": 3, "b or c": 3, "not b": 3, "not not b": 3, "s ++ r": 2, "text(n)": 2, "len(s)": 1,
		"getint(s)": 1, "getstr(s)": 2, "has(s)": 3, `getint("k" ++ text(n))`: 1, "has(getstr(getstr(s)))": 3,
		"n + len(text(getint(s))) == 7 and not (b or has(r)) != c": 3, `text(now() - random() * node()) ++ "x"`: 2, "(n == m) == (s == r)": 3, "(n < m) != (s > r)": 3,
	} {
		checkOf(t, expr(t, src), allTypes(), want, api.OK)
	}
}

// TestP11_1Operators gives each operator operands of all types.
func TestP11_1Operators(t *testing.T) {
	operands := map[string][]string{"int": {"1", "n", "len(s)", "getint(r)"}, "str": {`"1"`, "s", "text(n)", "getstr(r)"}, "bool": {"b", "has(s)", "n == 1", "not b"}}
	counts := map[int]int{}
	for op := api.EInt; op <= api.ENode; op++ {
		if op == api.EVar {
			continue
		}
		for ways := range 9 {
			names := []string{"int", "str", "bool"}
			types := []string{names[ways%3], names[ways/3]}[:ast.Arity(op)]
			want, wantError := 0, api.ErrType
			for _, signature := range signatures[op] {
				if result, ok := strings.CutPrefix(signature, strings.TrimSpace(strings.Join(types, " ")+" -> ")); ok {
					want, wantError = typeNumbers[strings.TrimSpace(result)], api.OK
				}
			}
			for i := range 4 {
				e := api.Expr{Op: op}
				for j, ty := range types {
					e.Args = append(e.Args, expr(t, operands[ty][(i+j)%4]))
				}
				checkOf(t, e, allTypes(), want, wantError)
				counts[want]++
			}
		}
	}
	if counts[0] == 0 || counts[1] == 0 || counts[2] == 0 || counts[3] == 0 {
		t.Errorf("the results are %v", counts)
	}
}

// TestP11_1FirstError has expressions with several errors.
func TestP11_1FirstError(t *testing.T) {
	for src, want := range map[string]api.Errno{
		"x": api.ErrUnassigned, "z": api.ErrType, "x + z": api.ErrUnassigned, "z + x": api.ErrType, "s + x": api.ErrUnassigned, "x + s": api.ErrUnassigned, "n + z": api.ErrType, "s + z": api.ErrType,
		"-s + x": api.ErrType, "x + -s": api.ErrUnassigned, "-(s + x)": api.ErrUnassigned, "-s and x": api.ErrType, "not x": api.ErrUnassigned, "not n": api.ErrType, "not z": api.ErrType,
		"(n + s) * x": api.ErrType, "n + s * x": api.ErrUnassigned, "n + s + x": api.ErrType, "s == n and x": api.ErrType, "b and (s == n or x)": api.ErrType, "b and (x or s == n)": api.ErrUnassigned,
		"n and b or x": api.ErrType, "n and (b or x)": api.ErrUnassigned, "len(n) + x": api.ErrType, "len(x) + s": api.ErrUnassigned, "has(getint(getstr(x)))": api.ErrUnassigned, "has(getint(s))": api.ErrType,
		"has(1) == x": api.ErrType, "x == has(1)": api.ErrUnassigned, "b < c": api.ErrType, "b < c and x": api.ErrType, "n < x": api.ErrUnassigned, "text(s) ++ x": api.ErrType, "s ++ n ++ x": api.ErrType, "s ++ (n ++ x)": api.ErrUnassigned,
		"z == z": api.ErrType, "x == x": api.ErrUnassigned, "n == s": api.ErrType, "n == b": api.ErrType, "s != b": api.ErrType, "n <= b": api.ErrType, "s >= n": api.ErrType, "n + s == z": api.ErrType,
	} {
		checkOf(t, expr(t, src), allTypes(), 0, want)
	}
}

// level returns the operands and all expressions with one operator and some of the operands.
func level(operands []api.Expr) []api.Expr {
	l := slices.Clone(operands)
	for op := api.EInt; op <= api.ENode; op++ {
		for i, a := range operands {
			switch ast.Arity(op) {
			case 1:
				l = append(l, api.Expr{Op: op, Args: []api.Expr{a}})
			case 2:
				for _, b := range operands {
					l = append(l, api.Expr{Op: op, Args: []api.Expr{a, b}})
				}
			default:
				if i == 0 && op != api.EVar {
					l = append(l, api.Expr{Op: op})
				}
			}
		}
	}
	return l
}

// TestP11_1Small has all expressions of up to two levels, and those whose operands stand for all results of such expressions.
func TestP11_1Small(t *testing.T) {
	var leaves []api.Expr
	for _, name := range []string{"n", "s", "b", "x", "z", "c"} {
		leaves = append(leaves, api.Expr{Op: api.EVar, S: name})
	}
	type results struct {
		ty     int
		err    api.Errno
		isLeaf bool
	}
	seen := map[results]api.Expr{}
	for _, e := range level(leaves) {
		ty, err := definedOf(e, allTypes())
		checkOf(t, e, allTypes(), ty, err)
		if len(e.Args) > 0 || e.Op == api.EVar {
			checkOf(t, e, nil, 0, api.ErrUnassigned)
		}
		seen[results{ty, err, len(e.Args) == 0}] = e
	}
	var operands []api.Expr
	for _, e := range seen {
		operands = append(operands, e)
	}
	if len(operands) != 10 {
		t.Fatalf("there are %d kinds of results", len(operands))
	}
	for _, e := range level(operands) {
		ty, err := definedOf(e, allTypes())
		checkOf(t, e, allTypes(), ty, err)
	}
}

func TestP11_1NoOperand(t *testing.T) {
	for op, want := range map[int]int{api.EInt: 1, api.EStr: 2, api.ENow: 1, api.ERandom: 1, api.ENode: 1} {
		checkOf(t, api.Expr{Op: op}, nil, want, api.OK)
		checkOf(t, api.Expr{Op: op, Args: []api.Expr{}}, []api.Param{param("", 1), param("", 0)}, want, api.OK)
	}
}

// TestP11_1Vars has variables in all orders.
func TestP11_1Vars(t *testing.T) {
	n := expr(t, "n")
	for _, ty := range []int{math.MinInt, -1, 0, 1, 2, 3, 4, 5, 9, 1 << 16, 1<<32 + 1, math.MaxInt} {
		want, err := 0, api.ErrType
		if ty == 1 || ty == 2 || ty == 3 {
			want, err = ty, api.OK
		}
		checkOf(t, n, []api.Param{param("n", ty)}, want, err)
		checkOf(t, n, []api.Param{param("m", 1), param("nn", 2), param("", 3), param("N", 1), param("n", ty), param("n", 1), param("n", 2)}, want, err)
		checkOf(t, n, []api.Param{param("n", 1), param("n", ty)}, 1, api.OK)
		checkOf(t, n, []api.Param{param("n", 3), param("m", ty), param("n", ty), param("n", 2)}, 3, api.OK)
		checkOf(t, n, []api.Param{param("m", ty)}, 0, api.ErrUnassigned)
		checkOf(t, expr(t, "n == n"), []api.Param{param("n", ty)}, map[bool]int{true: 3}[err == api.OK], err)
		checkOf(t, expr(t, "1 + 2"), []api.Param{param("n", ty)}, 1, api.OK)
	}
	long := strings.Repeat("k", 16)
	vars := []api.Param{param(long[1:], 1), param(long, 2), param("if", 3), param("K", 3), param("k k", 3), param("k\x00", 3)}
	checkOf(t, api.Expr{Op: api.EVar, S: long[1:]}, vars, 1, api.OK)
	checkOf(t, api.Expr{Op: api.EVar, S: long}, vars, 2, api.OK)
	for _, name := range []string{"if", "K", "k k", "k\x00", "", long + "k"} {
		checkOf(t, api.Expr{Op: api.EVar, S: name}, append(vars, param(name, 1)), 0, api.ErrName)
	}
	checkOf(t, expr(t, "k"), vars, 0, api.ErrUnassigned)
	vars = nil
	for i := range 5000 {
		vars = append(vars, param(fmt.Sprintf("v%d", i%3000), 1+(i/3000+i)%3))
	}
	for i := 0; i < 3000; i += 13 {
		checkOf(t, expr(t, fmt.Sprintf("v%d", i)), vars, 1+i%3, api.OK)
	}
	checkOf(t, expr(t, "v2999"), vars, 1+2999%3, api.OK)
	checkOf(t, expr(t, "v3000"), vars, 0, api.ErrUnassigned)
	// What is behind the list does not count.
	checkOf(t, n, []api.Param{param("n", 1), param("n", 2)}[:0], 0, api.ErrUnassigned)
	checkOf(t, n, []api.Param{param("m", 1), param("n", 2)}[:1], 0, api.ErrUnassigned)
}

// invalid returns expressions with the error of each that ValidExpr finds at its root.
func invalid() map[*api.Expr]api.Errno {
	number := api.Expr{Op: api.EInt}
	return map[*api.Expr]api.Errno{
		{}: api.ErrArg, {Op: 28}: api.ErrArg, {Op: -1}: api.ErrArg, {Op: math.MaxInt}: api.ErrArg, {Op: math.MinInt}: api.ErrArg, {Op: api.EInt, N: -1}: api.ErrArg, {Op: api.EInt, S: "n"}: api.ErrArg, {Op: api.EStr, N: 1}: api.ErrArg,
		{Op: api.EStr, S: "\n"}: api.ErrArg, {Op: api.EStr, S: strings.Repeat("s", mostString+1)}: api.ErrArg, {Op: api.EVar, S: "N"}: api.ErrName, {Op: api.EVar}: api.ErrName, {Op: api.EVar, S: "let"}: api.ErrName, {Op: api.EVar, S: "n", N: 1}: api.ErrArg,
		{Op: api.EAdd, Args: []api.Expr{number}}: api.ErrArg, {Op: api.EAdd, Args: []api.Expr{number, number, number}}: api.ErrArg, {Op: api.ENeg}: api.ErrArg, {Op: api.EInt, Args: []api.Expr{number}}: api.ErrArg, {Op: api.EVar, S: "n", Args: []api.Expr{number}}: api.ErrArg,
		{Op: api.EHas, S: "n", Args: []api.Expr{number}}: api.ErrArg, {Op: api.ENow, Args: []api.Expr{number}}: api.ErrArg, {Op: api.EEq}: api.ErrArg,
	}
}

// TestP11_1Invalid puts an error of ValidExpr at each place of expressions with other errors.
func TestP11_1Invalid(t *testing.T) {
	count := 0
	for bad, want := range invalid() {
		checkOf(t, *bad, allTypes(), 0, want)
		for _, src := range []string{"1", "-n", "x + z", "not (n + x) == (s and z)", "has(z) or x and -s", "text(len(getstr(getint(x))))"} {
			for i := range leavesFirst(new(expr(t, src))) {
				e := expr(t, src)
				*leavesFirst(&e)[i] = *bad
				checkOf(t, e, allTypes(), 0, want)
				count++
			}
		}
	}
	if count < 500 {
		t.Errorf("%d expressions are tested", count)
	}
}

// TestP11_1Depth has the deepest expressions, in all directions.
func TestP11_1Depth(t *testing.T) {
	wraps := map[string]int{"-(E)": 1, "1 + (E)": 1, "(E) * 1": 1, "len(text(E))": 1, "not (E)": 3, "b and (E)": 3, "(E) == b": 3, `"a" ++ (E)`: 2, "getstr(E)": 2}
	for wrap, ty := range wraps {
		leaf := expr(t, []string{"", "n", "s", "b"}[ty])
		e, unassigned := leaf, expr(t, "x")
		for depth := 1; depth <= 2*mostDepth; depth++ {
			want, err, errOfX := ty, api.OK, api.ErrUnassigned
			if depth > mostDepth {
				want, err, errOfX = 0, api.ErrLimit, api.ErrLimit
			}
			checkOf(t, e, allTypes(), want, err)
			checkOf(t, unassigned, allTypes(), 0, errOfX)
			outer := expr(t, strings.Replace(wrap, "E", "hole", 1))
			e, unassigned = filled(outer, e), filled(outer, unassigned)
			if wrap == "len(text(E))" {
				depth++
			}
		}
	}
}

// filled returns a copy of e in which the expression x stands instead of the variable hole.
func filled(e, x api.Expr) api.Expr {
	if e.Op == api.EVar && e.S == "hole" {
		return x
	}
	e.Args = slices.Clone(e.Args)
	for i := range e.Args {
		e.Args[i] = filled(e.Args[i], x)
	}
	return e
}

// TestP11_1Random compares random expressions with the definition.
func TestP11_1Random(t *testing.T) {
	g := newGenerator(1)
	counts := map[[2]int]int{}
	for i := range 60000 {
		vars := g.params()
		g.errors = i % 4 * 2
		e := g.expr(1+g.IntN(3), 1+i%8, vars)
		ty, err := definedOf(e, vars)
		checkOf(t, e, vars, ty, err)
		counts[[2]int{ty, int(err)}]++
	}
	for _, x := range [][2]int{{1, 0}, {2, 0}, {3, 0}, {0, int(api.ErrUnassigned)}, {0, int(api.ErrType)}, {0, int(api.ErrArg)}, {0, int(api.ErrName)}} {
		if counts[x] < 400 {
			t.Errorf("%d expressions have the results %v", counts[x], x)
		}
	}
}
