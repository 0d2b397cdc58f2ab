package printer

import (
	"clockwork/api"
	"clockwork/ast"
	"math"
	"strconv"
	"strings"
	"testing"
)

// lines returns a text of these lines.
func lines(l ...string) string {
	return strings.Join(l, "\n") + "\n"
}

// add is the procedure of the chapter's example.
func add() api.Proc {
	sum := apply(api.EAdd, apply(api.EGetInt, variable("k")), variable("n"))
	return api.Proc{Name: "add", Params: []api.Param{param("k", api.TyStr), param("n", api.TyInt)}, Body: stmts(put(variable("k"), sum))}
}

const addText = "proc add(k: str, n: int) {\n    put k = getint(k) + n;\n}\n"

// counter is a procedure with all statements, and counterText is its text.
func counter() api.Proc {
	v := variable
	inner := when(apply(api.EGt, v("s"), v("n")), stmts(put(v("m"), v("s"))), stmts(remove(apply(api.ECat, v("m"), apply(api.EText, v("s"))))))
	return api.Proc{Name: "counter", Params: []api.Param{param("n", api.TyInt), param("m", api.TyStr), param("b", api.TyBool)}, Body: stmts(
		let("s", apply(api.EAdd, v("n"), apply(api.ELen, v("m")))),
		loop("i", v("s"), apply(api.EAdd, v("n"), v("i")), 3, set("s", apply(api.EMul, apply(api.EAdd, v("s"), v("i")), number(2))), inner),
		set("free", text("}")), emit(v("s")), abort(7),
	)}
}

const counterText = `proc counter(n: int, m: str, b: bool) {
    let s = n + len(m);
    for i = s to n + i max 3 {
        s = (s + i) * 2;
        if s > n {
            put m = s;
        } else {
            delete m ++ text(s);
        }
    }
    free = "}";
    emit s;
    abort 7;
}
`

func TestP9_2Examples(t *testing.T) {
	checkProc(t, add(), addText)
	checkProc(t, counter(), counterText)
	checkProc(t, api.Proc{Name: "none"}, "proc none() {\n}\n")
	checkProc(t, api.Proc{}, "")
}

func TestP9_2Statements(t *testing.T) {
	sum := apply(api.ESub, apply(api.EAdd, number(1), number(2)), apply(api.ESub, a, text("x")))
	const sumText = `1 + 2 - (a - "x")`
	for _, e := range []struct {
		e    api.Expr
		text string
	}{{a, "a"}, {sum, sumText}, {apply(api.EOr, a, b), "a or b"}, {apply(api.ENeg, number(0)), "-0"}, {text(`{"`), `"{\""`}, {text(""), `""`}, {apply(api.ENow), "now()"}} {
		checkStmt(t, let("y", e.e), "let y = "+e.text+";")
		checkStmt(t, set("y", e.e), "y = "+e.text+";")
		checkStmt(t, put(e.e, b), "put "+e.text+" = b;")
		checkStmt(t, put(b, e.e), "put b = "+e.text+";")
		checkStmt(t, put(e.e, e.e), "put "+e.text+" = "+e.text+";")
		checkStmt(t, remove(e.e), "delete "+e.text+";")
		checkStmt(t, emit(e.e), "emit "+e.text+";")
		checkStmt(t, when(e.e, aborts(1), nil), "if "+e.text+" {", "    abort 0;", "}")
		checkStmt(t, loop("y", e.e, b, 2), "for y = "+e.text+" to b max 2 {", "}")
		checkStmt(t, loop("y", b, e.e, 2), "for y = b to "+e.text+" max 2 {", "}")
		checkStmt(t, loop("y", e.e, e.e, 2, emit(e.e)), "for y = "+e.text+" to "+e.text+" max 2 {", "    emit "+e.text+";", "}")
	}
}

func TestP9_2If(t *testing.T) {
	checkStmt(t, when(a, nil, nil), "if a {", "}")
	checkStmt(t, when(a, stmts(), stmts()), "if a {", "}")
	checkStmt(t, when(a, aborts(2), nil), "if a {", "    abort 0;", "    abort 1;", "}")
	checkStmt(t, when(a, nil, aborts(1)), "if a {", "} else {", "    abort 0;", "}")
	checkStmt(t, when(a, aborts(1), aborts(2)), "if a {", "    abort 0;", "} else {", "    abort 0;", "    abort 1;", "}")
	empty := when(b, nil, nil)
	checkStmt(t, when(a, stmts(empty), nil), "if a {", "    if b {", "    }", "}")
	checkStmt(t, when(a, nil, stmts(empty)), "if a {", "} else {", "    if b {", "    }", "}")
	checkStmt(t, when(a, stmts(empty), stmts(empty)), "if a {", "    if b {", "    }", "} else {", "    if b {", "    }", "}")
	// Which of two conditions an Else belongs to shows in the indentation.
	checkStmt(t, when(a, stmts(when(b, nil, aborts(1))), nil), "if a {", "    if b {", "    } else {", "        abort 0;", "    }", "}")
	checkStmt(t, when(a, stmts(when(b, nil, nil)), aborts(1)), "if a {", "    if b {", "    }", "} else {", "    abort 0;", "}")
	checkStmt(t, when(a, nil, stmts(when(b, nil, stmts(when(c, nil, aborts(1)))))), "if a {", "} else {", "    if b {", "    } else {", "        if c {", "        } else {", "            abort 0;", "        }", "    }", "}")
	checkStmt(t, when(a, stmts(loop("i", b, c, 1)), stmts(emit(a), empty)), "if a {", "    for i = b to c max 1 {", "    }", "} else {", "    emit a;", "    if b {", "    }", "}")
}

// TestP9_2Max has all values of Max, and those beside them.
func TestP9_2Max(t *testing.T) {
	for n := 0; n <= mostAbort; n++ {
		checkProc(t, proc(abort(n)), "proc p() {\n    abort "+strconv.Itoa(n)+";\n}\n")
	}
	checkStmt(t, abort(0), "abort 0;")
	checkStmt(t, abort(999), "abort 999;")
	for n := 1; n <= mostLoop; n++ {
		checkStmt(t, loop("i", number(0), number(9), n), "for i = 0 to 9 max "+strconv.Itoa(n)+" {", "}")
	}
	for _, n := range []int{-1, 1000, 1001, 1 << 32, math.MinInt, math.MaxInt} {
		checkProc(t, proc(abort(n)), "")
	}
	for _, n := range []int{-1, 0, 17, 999, 1<<32 + 1, math.MinInt, math.MaxInt} {
		checkProc(t, proc(loop("i", number(0), number(9), n)), "")
	}
}

func TestP9_2Params(t *testing.T) {
	for ty, name := range map[int]string{api.TyInt: "int", api.TyStr: "str", api.TyBool: "bool"} {
		checkProc(t, withParams(param("x", ty)), "proc p(x: "+name+") {\n}\n")
		checkProc(t, withParams(param("x", ty), param("yy", ty)), "proc p(x: "+name+", yy: "+name+") {\n}\n")
	}
	all := []api.Param{param("a", api.TyBool), param("b", api.TyStr), param("c", api.TyInt), param("d", api.TyInt), param("e", api.TyStr), param("f", api.TyBool)}
	const allText = "a: bool, b: str, c: int, d: int, e: str, f: bool"
	for n := range mostParams + 1 {
		checkProc(t, withParams(all[:n]...), "proc p("+strings.Join(strings.Split(allText, ", ")[:n], ", ")+") {\n}\n")
	}
	checkProc(t, api.Proc{Name: "p", Params: all, Body: aborts(1)}, "proc p("+allText+") {\n    abort 0;\n}\n")
	checkProc(t, withParams(append(all, param("g", api.TyInt))...), "")
	for i := range all {
		for _, wrong := range []api.Param{{}, param("x", 0), param("x", 4), param("x", -1), param("x", 1<<32+1), param("x", math.MinInt), param("X", 1), param("", 1), param("int", 1), param(strings.Repeat("x", 17), 1)} {
			l := append([]api.Param{}, all...)
			l[i] = wrong
			checkProc(t, withParams(l...), "")
			checkProc(t, withParams(l[:i+1]...), "")
		}
		for j := range i {
			l := append([]api.Param{}, all...)
			l[i].Name = l[j].Name
			checkProc(t, withParams(l[:i+1]...), "")
		}
	}
}

func TestP9_2Names(t *testing.T) {
	for _, s := range []string{"a", "procs", "x1", "x_", strings.Repeat("k", mostName)} {
		checkProc(t, api.Proc{Name: s}, "proc "+s+"() {\n}\n")
		checkProc(t, api.Proc{Name: s, Params: []api.Param{param(s, api.TyStr)}}, "proc "+s+"("+s+": str) {\n}\n")
		checkStmt(t, let(s, number(1)), "let "+s+" = 1;")
		checkStmt(t, set(s, number(1)), s+" = 1;")
		checkStmt(t, loop(s, number(1), variable(s), 1, set(s, number(2))), "for "+s+" = 1 to "+s+" max 1 {", "    "+s+" = 2;", "}")
	}
	for _, s := range []string{"", "P", "proc", "1", "a b", "a\n", "_", strings.Repeat("k", mostName+1)} {
		checkProc(t, api.Proc{Name: s}, "")
		checkProc(t, api.Proc{Name: s, Body: aborts(2)}, "")
		for _, stmt := range []api.Stmt{let(s, number(1)), set(s, number(1)), loop(s, number(1), number(2), 1)} {
			checkProc(t, proc(stmt), "")
		}
	}
}

// nesting is a way in which statements can stand in another one, with the lines in front of them, and those behind them.
type nesting struct {
	nest          func(l ...api.Stmt) api.Stmt
	front, behind []string
}

func nests() []nesting {
	return []nesting{
		{func(l ...api.Stmt) api.Stmt { return when(a, l, nil) }, []string{"if a {"}, []string{"}"}},
		{func(l ...api.Stmt) api.Stmt { return when(a, nil, l) }, []string{"if a {", "} else {"}, []string{"}"}},
		{func(l ...api.Stmt) api.Stmt { return when(a, l, aborts(1)) }, []string{"if a {"}, []string{"} else {", "    abort 0;", "}"}},
		{func(l ...api.Stmt) api.Stmt { return loop("i", a, b, 1, l...) }, []string{"for i = a to b max 1 {"}, []string{"}"}},
	}
}

// TestP9_2Depth nests statements in up to MaxDepth levels and in more.
func TestP9_2Depth(t *testing.T) {
	for _, x := range nests() {
		for _, y := range nests() {
			s, l := emit(c), []string{"emit c;"}
			for depth := 1; depth <= mostDepth+2; depth++ {
				want := "proc p() {\n"
				for _, line := range l {
					want += "    " + line + "\n"
				}
				if depth > mostDepth {
					want = ""
				} else {
					want += "}\n"
				}
				checkProc(t, proc(s), want)
				outer := x
				if depth%2 == 0 {
					outer = y
				}
				s = outer.nest(s)
				around := append([]string{}, outer.front...)
				for _, line := range l {
					around = append(around, "    "+line)
				}
				l = append(around, outer.behind...)
			}
		}
	}
	deep := emit(c)
	for range mostDepth - 1 {
		deep = when(a, stmts(deep, abort(1)), nil)
	}
	checkProc(t, proc(deep, deep), procTextOf(proc(deep, deep)))
	if s := Proc(proc(deep, emit(a))); !strings.Contains(s, "\n"+strings.Repeat(" ", 48)+"emit c;\n"+strings.Repeat(" ", 48)+"abort 1;\n"+strings.Repeat(" ", 44)+"}\n") || !strings.HasSuffix(s, "\n    }\n    emit a;\n}\n") {
		t.Errorf("the text is\n%s", s)
	}
}

// TestP9_2Nodes has procedures of MaxNodes nodes, and of one more.
func TestP9_2Nodes(t *testing.T) {
	checkProc(t, proc(aborts(mostNodes)...), procTextOf(proc(aborts(mostNodes)...)))
	checkProc(t, proc(aborts(mostNodes+1)...), "")
	checkProc(t, proc(append(aborts(mostNodes-2), emit(number(1)))...), procTextOf(proc(append(aborts(mostNodes-2), emit(number(1)))...)))
	checkProc(t, proc(append(aborts(mostNodes-1), emit(number(1)))...), "")
	checkProc(t, proc(append(aborts(mostNodes), api.Stmt{})...), "")
	var body []api.Stmt
	for range 133 {
		body = append(body, put(text(strings.Repeat(`"`, 64)), text(strings.Repeat(`\`, 64))))
	}
	p := proc(body...)
	if want := procTextOf(p); len(want) <= api.MaxSource {
		t.Errorf("the text has only %d bytes", len(want))
	} else {
		checkProc(t, p, want)
	}
}

// fullStmts returns a statement of each operator.
func fullStmts() []api.Stmt {
	return []api.Stmt{
		let("y", a), set("y", a), put(a, b), remove(a), when(a, aborts(1), aborts(1)), loop("i", a, b, 2, abort(1)), emit(a), abort(1),
	}
}

// wrongStmts returns statements with each error that is not the depth.
func wrongStmts() []api.Stmt {
	l := []api.Stmt{{}, {Op: 9}, {Op: -1}, {Op: math.MaxInt}, {Op: math.MinInt}, {Name: "x"}, {A: a}, {Op: 9, Name: "x", A: a, B: b, Max: 1, Body: aborts(1), Else: aborts(1)}}
	valid := func(s api.Stmt) bool { return ast.Validate(proc(s)) == api.OK }
	for _, full := range fullStmts() {
		for _, change := range []func(s *api.Stmt){
			func(s *api.Stmt) { s.Name = "x" }, func(s *api.Stmt) { s.Name = "X" }, func(s *api.Stmt) { s.Name = "" },
			func(s *api.Stmt) { s.Max = 1 }, func(s *api.Stmt) { s.Max = -1 }, func(s *api.Stmt) { s.Max = 1000 }, func(s *api.Stmt) { s.Max = 0 },
			func(s *api.Stmt) { s.A = a }, func(s *api.Stmt) { s.A = api.Expr{} }, func(s *api.Stmt) { s.A = number(-1) }, func(s *api.Stmt) { s.A.Args = []api.Expr{a} },
			func(s *api.Stmt) { s.B = b }, func(s *api.Stmt) { s.B = api.Expr{} }, func(s *api.Stmt) { s.B = variable("X") }, func(s *api.Stmt) { s.B.N = 1 },
			func(s *api.Stmt) { s.Body = aborts(1) }, func(s *api.Stmt) { s.Body = stmts(api.Stmt{}) },
			func(s *api.Stmt) { s.Else = aborts(1) }, func(s *api.Stmt) { s.Else = stmts(abort(-1)) },
		} {
			s := full
			if change(&s); !valid(s) {
				l = append(l, s)
			}
		}
	}
	for _, e := range wrongNodes() {
		l = append(l, let("y", e), set("y", e), put(e, a), put(a, e), remove(e), when(e, nil, nil), loop("i", e, a, 1), loop("i", a, e, 1), emit(e), emit(apply(api.ENeg, e)), put(a, apply(api.ECat, b, apply(api.EText, e))))
	}
	return l
}

// TestP9_2NotValid has wrong statements alone, between others, and in others.
func TestP9_2NotValid(t *testing.T) {
	deep := number(1)
	for range mostDepth {
		deep = apply(api.ENeg, deep)
	}
	wrong := append(wrongStmts(), emit(deep), put(a, deep), put(deep, a), loop("i", a, deep, 1), when(deep, nil, nil))
	for _, s := range wrong {
		checkProc(t, proc(s), "")
		checkProc(t, proc(abort(1), s), "")
		checkProc(t, proc(s, abort(1)), "")
		checkProc(t, api.Proc{Name: "p", Params: add().Params, Body: append(fullStmts(), s)}, "")
		for _, x := range nests() {
			checkProc(t, proc(x.nest(s)), "")
			checkProc(t, proc(x.nest(abort(1), x.nest(x.nest(s, abort(1)))), abort(2)), "")
		}
	}
}

// randomProcs are valid procedures of all sizes, the same ones in each call.
func randomProcs(t *testing.T, n int) []api.Proc {
	g := newGenerator()
	var l []api.Proc
	for i := 0; len(l) < n; i++ {
		p := g.proc(1+i%9, 1+i%7)
		if ast.Validate(p) == api.OK {
			l = append(l, p)
		}
		if i > 20*n {
			t.Fatal("the procedures are too large")
		}
	}
	return l
}

func TestP9_2Random(t *testing.T) {
	sizes, depths := map[int]bool{}, map[int]bool{}
	for _, p := range randomProcs(t, 3000) {
		checkProc(t, p, procTextOf(p))
		sizes[ast.Nodes(p)/50], depths[ast.Depth(p)] = true, true
	}
	if len(sizes) < 8 || len(depths) < 9 {
		t.Errorf("the sizes are %v, the depths are %v", sizes, depths)
	}
}

func TestP9_3Program(t *testing.T) {
	none := api.Proc{Name: "none"}
	const noneText = "proc none() {\n}\n"
	checkProgram(t, nil, "")
	checkProgram(t, []api.Proc{}, "")
	checkProgram(t, []api.Proc{none}, noneText)
	checkProgram(t, []api.Proc{none, none}, noneText+"\n"+noneText)
	checkProgram(t, []api.Proc{none, add()}, noneText+"\n"+addText)
	checkProgram(t, []api.Proc{add(), none}, addText+"\n"+noneText)
	checkProgram(t, []api.Proc{counter(), add(), none}, counterText+"\n"+addText+"\n"+noneText)
	checkProgram(t, []api.Proc{add(), add(), counter(), add()}, addText+"\n"+addText+"\n"+counterText+"\n"+addText)
	checkProgram(t, []api.Proc{proc(aborts(2)...), proc(nestedIf(2))}, lines("proc p() {", "    abort 0;", "    abort 1;", "}", "", "proc p() {", "    if a {", "        if a {", "        }", "    }", "}"))
	many := strings.Repeat(addText+"\n", 99) + addText
	var l []api.Proc
	for range 100 {
		l = append(l, add())
	}
	checkProgram(t, l, many)
}

// nestedIf returns n statements, each but the first one in another one.
func nestedIf(n int) api.Stmt {
	s := when(a, nil, nil)
	for range n - 1 {
		s = when(a, stmts(s), nil)
	}
	return s
}

// wrongProcs are procedures that are not valid.
func wrongProcs() []api.Proc {
	l := []api.Proc{
		{}, {Name: "let"}, {Name: "P"}, withParams(make([]api.Param, 1)...), withParams(param("x", 4)), withParams(param("x", 1), param("x", 2)),
		{Name: "p", Params: []api.Param{param("a", 1), param("b", 1), param("c", 1), param("d", 1), param("e", 1), param("f", 1), param("g", 1)}},
		proc(aborts(401)...), proc(nestedIf(13)), {Name: "", Body: aborts(1)},
	}
	for i, s := range wrongStmts() {
		if i%9 == 0 {
			l = append(l, proc(s), proc(abort(1), when(a, nil, stmts(s))))
		}
	}
	return l
}

// TestP9_3NotValid has one wrong procedure in front of valid ones, between them, and behind them.
func TestP9_3NotValid(t *testing.T) {
	for _, wrong := range wrongProcs() {
		for _, n := range []int{1, 2, 3, 5} {
			for at := range n {
				l := []api.Proc{add(), counter(), {Name: "none"}, add(), proc(aborts(3)...)}[:n]
				l[at] = wrong
				checkProgram(t, l, "")
			}
		}
		checkProgram(t, []api.Proc{wrong, wrong}, "")
		checkProgram(t, []api.Proc{wrong, add(), {}}, "")
	}
}

func TestP9_3Random(t *testing.T) {
	l := randomProcs(t, 600)
	for i := 0; len(l) > 0; i++ {
		n := min(i%20, len(l))
		var texts []string
		for _, p := range l[:n] {
			texts = append(texts, Proc(p))
		}
		checkProgram(t, l[:n], strings.Join(texts, "\n"))
		l = l[n:]
	}
}
