package parser

import (
	"clockwork/api"
	"strings"
	"testing"
)

// TestP10_1Units has the expressions of one unit, with each of their trees written out.
func TestP10_1Units(t *testing.T) {
	for _, x := range []struct {
		src  string
		want api.Expr
	}{
		{"0", number(0)},
		{"1", number(1)},
		{"9223372036854775807", number(9223372036854775807)},
		{"4294967296", number(4294967296)},
		{`""`, text("")},
		{`"a b"`, text("a b")},
		{`"\"\\"`, text(`"\`)},
		{`"not"`, text("not")},
		{`"("`, text("(")},
		{`"` + strings.Repeat("k", mostString) + `"`, text(strings.Repeat("k", mostString))},
		{"a", a},
		{"x_1", variable("x_1")},
		{"nota", variable("nota")},
		{"sixteen_letters_", variable("sixteen_letters_")},
		{"text(a)", apply(api.EText, a)},
		{"len(a)", apply(api.ELen, a)},
		{"getint(a)", apply(api.EGetInt, a)},
		{"getstr(a)", apply(api.EGetStr, a)},
		{"has(a)", apply(api.EHas, a)},
		{"now()", apply(api.ENow)},
		{"random()", apply(api.ERandom)},
		{"node()", apply(api.ENode)},
		{"-a", apply(api.ENeg, a)},
		{"--a", apply(api.ENeg, apply(api.ENeg, a))},
		{"not a", apply(api.ENot, a)},
		{"not not a", apply(api.ENot, apply(api.ENot, a))},
		{"(a)", a},
		{"((a))", a},
		{"(now())", apply(api.ENow)},
		{"len((a))", apply(api.ELen, a)},
		{"len(not a)", apply(api.ELen, apply(api.ENot, a))},
		{"has(a or b)", apply(api.EHas, apply(api.EOr, a, b))},
		{"len(text(random()))", apply(api.ELen, apply(api.EText, apply(api.ERandom)))},
	} {
		checkExpr(t, x.src, x.want)
		checkExpr(t, strings.Join(textsOf(x.src), "\n"), x.want)
	}
}

// binding is how strongly the operators between two operands bind.
var binding = []struct {
	text  string
	op    int
	level int
}{
	{"or", api.EOr, 1}, {"and", api.EAnd, 2},
	{"==", api.EEq, 4}, {"!=", api.ENe, 4}, {"<", api.ELt, 4}, {"<=", api.ELe, 4}, {">", api.EGt, 4}, {">=", api.EGe, 4},
	{"++", api.ECat, 5}, {"+", api.EAdd, 6}, {"-", api.ESub, 6}, {"*", api.EMul, 7}, {"/", api.EDiv, 7}, {"%", api.EMod, 7},
}

// TestP10_1Pairs has all pairs of operators, with and without parentheses.
func TestP10_1Pairs(t *testing.T) {
	for _, x := range binding {
		checkExpr(t, "a "+x.text+" b", apply(x.op, a, b))
		checkExpr(t, "not a "+x.text+" b", pick(x.level < 3, apply(x.op, apply(api.ENot, a), b), apply(api.ENot, apply(x.op, a, b))))
		checkExpr(t, "(not a) "+x.text+" b", apply(x.op, apply(api.ENot, a), b))
		checkExpr(t, "not (a "+x.text+" b)", apply(api.ENot, apply(x.op, a, b)))
		checkExpr(t, "a "+x.text+" (not b)", apply(x.op, a, apply(api.ENot, b)))
		checkExpr(t, "- a "+x.text+" b", apply(x.op, apply(api.ENeg, a), b))
		checkExpr(t, "a "+x.text+" - b", apply(x.op, a, apply(api.ENeg, b)))
		checkExpr(t, "-(a "+x.text+" b)", apply(api.ENeg, apply(x.op, a, b)))
		if x.level < 3 {
			checkExpr(t, "a "+x.text+" not b", apply(x.op, a, apply(api.ENot, b)))
		} else {
			checkError(t, symbolExpr, "a "+x.text+"\nnot b", 2, api.ErrSyntax)
		}
		for _, y := range binding {
			left, right := apply(y.op, apply(x.op, a, b), c), apply(x.op, a, apply(y.op, b, c))
			checkExpr(t, "(a "+x.text+" b) "+y.text+" c", left)
			checkExpr(t, "a "+x.text+" (b "+y.text+" c)", right)
			if x.level == 4 && y.level == 4 {
				checkError(t, symbolExpr, "a "+x.text+" b\n"+y.text+" c", 2, api.ErrSyntax)
				continue
			}
			checkExpr(t, "a "+x.text+" b "+y.text+" c", pick(x.level >= y.level, left, right))
		}
	}
}

// pick returns one of two values.
func pick[T any](first bool, x, y T) T {
	if first {
		return x
	}
	return y
}

// TestP10_1Chains has many operators of one level, and all levels in one expression.
func TestP10_1Chains(t *testing.T) {
	checkExpr(t, "a - b - c - d", apply(api.ESub, apply(api.ESub, apply(api.ESub, a, b), c), d))
	checkExpr(t, "a + b - c + d", apply(api.EAdd, apply(api.ESub, apply(api.EAdd, a, b), c), d))
	checkExpr(t, "a * b / c % d", apply(api.EMod, apply(api.EDiv, apply(api.EMul, a, b), c), d))
	checkExpr(t, "a ++ b ++ c", apply(api.ECat, apply(api.ECat, a, b), c))
	checkExpr(t, "a or b or c or d", apply(api.EOr, apply(api.EOr, apply(api.EOr, a, b), c), d))
	checkExpr(t, "a and b and c", apply(api.EAnd, apply(api.EAnd, a, b), c))
	checkExpr(t, "a - - - b", apply(api.ESub, a, apply(api.ENeg, apply(api.ENeg, b))))
	checkExpr(t, "a < b and c < d or not d == a", apply(api.EOr, apply(api.EAnd, apply(api.ELt, a, b), apply(api.ELt, c, d)), apply(api.ENot, apply(api.EEq, d, a))))
	checkExpr(t, "a or b and not c == d ++ a + b * - c", apply(api.EOr, a, apply(api.EAnd, b, apply(api.ENot, apply(api.EEq, c, apply(api.ECat, d, apply(api.EAdd, a, apply(api.EMul, b, apply(api.ENeg, c)))))))))
	checkExpr(t, "- a * b + c ++ d < a and b or c", apply(api.EOr, apply(api.EAnd, apply(api.ELt, apply(api.ECat, apply(api.EAdd, apply(api.EMul, apply(api.ENeg, a), b), c), d), a), b), c))
	checkExpr(t, "1 + 2 * x", apply(api.EAdd, number(1), apply(api.EMul, number(2), variable("x"))))
	checkError(t, symbolExpr, "a+++b", 1, api.ErrSyntax)
}

// TestP10_1Statements has each kind of statement, with its tree written out.
func TestP10_1Statements(t *testing.T) {
	for _, x := range []struct {
		src  string
		want []api.Stmt
	}{
		{"", nil},
		{"let x = a;", stmts(let("x", a))},
		{"x = a;", stmts(set("x", a))},
		{"put a = b;", stmts(put(a, b))},
		{"put a == b = c == d;", stmts(put(apply(api.EEq, a, b), apply(api.EEq, c, d)))},
		{"delete a;", stmts(remove(a))},
		{"emit a;", stmts(emit(a))},
		{"abort 0;", stmts(abort(0))},
		{"abort 7;", stmts(abort(7))},
		{"abort 999;", stmts(abort(999))},
		{"if a {}", stmts(when(a, nil, nil))},
		{"if a {} else {}", stmts(when(a, nil, nil))},
		{"if a { emit b; }", stmts(when(a, stmts(emit(b)), nil))},
		{"if a {} else { emit b; }", stmts(when(a, nil, stmts(emit(b))))},
		{"if a { emit b; } else { emit c; emit d; }", stmts(when(a, stmts(emit(b)), stmts(emit(c), emit(d))))},
		{"if (a) {}", stmts(when(a, nil, nil))},
		{"for i = a to b max 1 {}", stmts(loop("i", a, b, 1))},
		{"for i = 0 to n - 1 max 16 { emit i; i = c; }", stmts(loop("i", number(0), apply(api.ESub, variable("n"), number(1)), 16, emit(variable("i")), set("i", c)))},
		{"emit a; emit b;", stmts(emit(a), emit(b))},
		{"if a { if b {} else { emit c; } }", stmts(when(a, stmts(when(b, nil, stmts(emit(c)))), nil))},
		{"if a { if b {} } else { emit c; }", stmts(when(a, stmts(when(b, nil, nil)), stmts(emit(c))))},
		{"if a {} else { if b {} else {} } if c { for i = a to b max 2 {} }", stmts(when(a, nil, stmts(when(b, nil, nil))), when(c, stmts(loop("i", a, b, 2)), nil))},
		{"for i = a to b max 1 { for j = b to c max 2 { for k = c to d max 3 {} } } abort 1;", stmts(loop("i", a, b, 1, loop("j", b, c, 2, loop("k", c, d, 3))), abort(1))},
		{`put "k" = getint("k") + n; delete "l" ++ text(n);`, stmts(put(text("k"), apply(api.EAdd, apply(api.EGetInt, text("k")), variable("n"))), remove(apply(api.ECat, text("l"), apply(api.EText, variable("n")))))},
		{"let lets = puts; iff = elses; fora = tomax;", stmts(let("lets", variable("puts")), set("iff", variable("elses")), set("fora", variable("tomax")))},
	} {
		checkStmts(t, x.src, x.want...)
		checkStmts(t, strings.Join(textsOf(x.src), " # ; }\n"), x.want...)
	}
}

// TestP10_1Procedures has names and parameters.
func TestP10_1Procedures(t *testing.T) {
	params := []api.Param{param("a", 1), param("b", 2), param("c", 3), param("d", 1), param("e", 2), param("f", 3)}
	const long = "a: int, b: str, c: bool, d: int, e: str, f: bool"
	checkProc(t, "proc p() {}", api.Proc{Name: "p"})
	checkProc(t, "proc\np\n(\n)\n{\n}\n", api.Proc{Name: "p"})
	checkProc(t, "proc sixteen_letters_() {}", api.Proc{Name: "sixteen_letters_"})
	for n := range mostParams + 1 {
		src := strings.Join(strings.Split(long, ", ")[:n], " , ")
		checkProc(t, "proc p("+src+") {}", api.Proc{Name: "p", Params: params[:n]})
		checkProc(t, "proc p("+src+") { emit a; }", api.Proc{Name: "p", Params: params[:n], Body: stmts(emit(a))})
	}
	checkProc(t, "proc p(p: str) { p = p; }", api.Proc{Name: "p", Params: []api.Param{param("p", 2)}, Body: stmts(set("p", variable("p")))})
	checkProc(t, "proc add(k: str, n: int) {\n    put k = getint(k) + n;\n}\n", api.Proc{Name: "add", Params: []api.Param{param("k", 2), param("n", 1)}, Body: stmts(put(variable("k"), apply(api.EAdd, apply(api.EGetInt, variable("k")), variable("n"))))})
}

func TestP10_1Programs(t *testing.T) {
	one, two, three := api.Proc{Name: "one"}, api.Proc{Name: "two", Body: stmts(abort(2))}, api.Proc{Name: "three", Params: []api.Param{param("a", 3)}, Body: stmts(emit(a))}
	checkProgram(t, "")
	checkProgram(t, " \t\n")
	checkProgram(t, "# nothing")
	checkProgram(t, "proc one() {}", one)
	checkProgram(t, "proc one(){}proc two(){abort 2;}", one, two)
	checkProgram(t, "proc two() { abort 2; }\nproc one() {}", two, one)
	checkProgram(t, "proc one() {} # proc two() {}\nproc three(a: bool) { emit a; }\n\nproc two() { abort 2; }\n# end", one, three, two)
}

// TestP10_1Examples has the examples of the chapter.
func TestP10_1Examples(t *testing.T) {
	checkError(t, symbolExpr, "a < b < c", 1, api.ErrSyntax)
	checkError(t, symbolExpr, "1 +", 1, api.ErrTruncated)
	checkError(t, symbolExpr, "", 1, api.ErrTruncated)
	checkError(t, symbolExpr, "-9223372036854775808", 1, api.ErrOverflow)
	checkError(t, symbolProc, "proc p() {\n  emit x\n}", 3, api.ErrSyntax)
	checkError(t, symbolProc, "proc p() { abort 1000; }", 0, api.ErrArg)
	checkProgram(t, "")
}

// TestP10_1Errors has errors of lists of tokens, with the lines on which the chapter has them.
func TestP10_1Errors(t *testing.T) {
	for _, x := range []struct {
		symbol, src string
		line        int
		e           api.Errno
	}{
		{symbolExpr, "\n\n# a\n", 1, api.ErrTruncated},
		{symbolExpr, "\n\n1 +\n\n", 3, api.ErrTruncated},
		{symbolExpr, "(\n1\n# )\n", 2, api.ErrTruncated},
		{symbolExpr, "\nnow", 2, api.ErrTruncated},
		{symbolExpr, "now(", 1, api.ErrTruncated},
		{symbolExpr, "len", 1, api.ErrTruncated},
		{symbolExpr, "len(", 1, api.ErrTruncated},
		{symbolExpr, "not", 1, api.ErrTruncated},
		{symbolExpr, "a\n<", 2, api.ErrTruncated},
		{symbolExpr, "a\nb", 2, api.ErrSyntax},
		{symbolExpr, "a\n)", 2, api.ErrSyntax},
		{symbolExpr, "(a\n))", 2, api.ErrSyntax},
		{symbolExpr, "()\n", 1, api.ErrSyntax},
		{symbolExpr, "(\n)\n", 2, api.ErrSyntax},
		{symbolExpr, "len\na", 2, api.ErrSyntax},
		{symbolExpr, "len(\n)", 2, api.ErrSyntax},
		{symbolExpr, "now\na", 2, api.ErrSyntax},
		{symbolExpr, "now(\na)", 2, api.ErrSyntax},
		{symbolExpr, "x\n(a)", 2, api.ErrSyntax},
		{symbolExpr, "a ==\n== b", 2, api.ErrSyntax},
		{symbolExpr, "a ==\n=", 2, api.ErrSyntax},
		{symbolExpr, "a\n= b", 2, api.ErrSyntax},
		{symbolExpr, "a\nnot b", 2, api.ErrSyntax},
		{symbolExpr, "+\na", 1, api.ErrSyntax},
		{symbolExpr, "a\n\"or\" b", 2, api.ErrSyntax},
		{symbolExpr, "\"(\"\na)", 2, api.ErrSyntax},
		{symbolExpr, "a\n;", 2, api.ErrSyntax},
		{symbolExpr, "proc p() {}", 1, api.ErrSyntax},
		{symbolExpr, "a\n, b", 2, api.ErrSyntax},
		{symbolProc, "", 1, api.ErrTruncated},
		{symbolProc, "# proc p() {}\n", 1, api.ErrTruncated},
		{symbolProc, "proc", 1, api.ErrTruncated},
		{symbolProc, "proc p(\n)\n", 2, api.ErrTruncated},
		{symbolProc, "proc p(a: int,\n", 1, api.ErrTruncated},
		{symbolProc, "proc p() {", 1, api.ErrTruncated},
		{symbolProc, "proc p() {\nif a {} else", 2, api.ErrTruncated},
		{symbolProc, "proc p() {\nif a {}", 2, api.ErrTruncated},
		{symbolProc, "a", 1, api.ErrSyntax},
		{symbolProc, "\"proc\" p() {}", 1, api.ErrSyntax},
		{symbolProc, "proc\nlet() {}", 2, api.ErrSyntax},
		{symbolProc, "proc\n1() {}", 2, api.ErrSyntax},
		{symbolProc, "proc\n\"p\"() {}", 2, api.ErrSyntax},
		{symbolProc, "proc p\n{}", 2, api.ErrSyntax},
		{symbolProc, "proc p(\n, a: int) {}", 2, api.ErrSyntax},
		{symbolProc, "proc p(a: int,\n) {}", 2, api.ErrSyntax},
		{symbolProc, "proc p(a: int\nb: int) {}", 2, api.ErrSyntax},
		{symbolProc, "proc p(a\nint) {}", 2, api.ErrSyntax},
		{symbolProc, "proc p(a:\nb) {}", 2, api.ErrSyntax},
		{symbolProc, "proc p(a:\ntext) {}", 2, api.ErrSyntax},
		{symbolProc, "proc p(int\n: a) {}", 1, api.ErrSyntax},
		{symbolProc, "proc p()\n;", 2, api.ErrSyntax},
		{symbolProc, "proc p() {}\n}", 2, api.ErrSyntax},
		{symbolProc, "proc p() {}\nproc q() {}", 2, api.ErrSyntax},
		{symbolProc, "proc p() {}\nelse {}", 2, api.ErrSyntax},
		{symbolProc, "proc p() {\n;}", 2, api.ErrSyntax},
		{symbolProc, "proc p() {\n{}}", 2, api.ErrSyntax},
		{symbolProc, "proc p() {\nelse {}}", 2, api.ErrSyntax},
		{symbolProc, "proc p() {\nproc q() {}}", 2, api.ErrSyntax},
		{symbolProc, "proc p() {\n1 = a;}", 2, api.ErrSyntax},
		{symbolProc, "proc p() { x\n== 1;}", 2, api.ErrSyntax},
		{symbolProc, "proc p() { let\nlet = 1;}", 2, api.ErrSyntax},
		{symbolProc, "proc p() { let x\n1;}", 2, api.ErrSyntax},
		{symbolProc, "proc p() { let x =\n;}", 2, api.ErrSyntax},
		{symbolProc, "proc p() { put a\n; }", 2, api.ErrSyntax},
		{symbolProc, "proc p() { put a = b\n= c; }", 2, api.ErrSyntax},
		{symbolProc, "proc p() { delete\n; }", 2, api.ErrSyntax},
		{symbolProc, "proc p() { abort\na; }", 2, api.ErrSyntax},
		{symbolProc, "proc p() { abort\n\"1\"; }", 2, api.ErrSyntax},
		{symbolProc, "proc p() { abort\n-1; }", 2, api.ErrSyntax},
		{symbolProc, "proc p() { abort 1\n+ 1; }", 2, api.ErrSyntax},
		{symbolProc, "proc p() { if a\nemit a; }", 2, api.ErrSyntax},
		{symbolProc, "proc p() { if a {} else\nif b {} }", 2, api.ErrSyntax},
		{symbolProc, "proc p() { if a {}\n; }", 2, api.ErrSyntax},
		{symbolProc, "proc p() { for i = 1 to 2\n{} }", 2, api.ErrSyntax},
		{symbolProc, "proc p() { for i = 1 to 2 max\nn {} }", 2, api.ErrSyntax},
		{symbolProc, "proc p() { for i = 1 to 2 max 3\n+ 4 {} }", 2, api.ErrSyntax},
		{symbolProc, "proc p() { for i = 1 to 2 max 3 {}\nelse {} }", 2, api.ErrSyntax},
		{symbolProgram, "proc a() {}\nemit x;", 2, api.ErrSyntax},
		{symbolProgram, "proc a() {}\n}", 2, api.ErrSyntax},
		{symbolProgram, "proc a() {}\nproc", 2, api.ErrTruncated},
		{symbolProgram, "proc a() {}\nproc b() {\n", 2, api.ErrTruncated},
		{symbolProgram, "proc a() {}\n\nproc b() {\n\n", 3, api.ErrTruncated},
		{symbolProgram, "a", 1, api.ErrSyntax},
	} {
		checkError(t, x.symbol, x.src, x.line, x.e)
	}
}
