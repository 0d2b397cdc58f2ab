package printer

import (
	"clockwork/api"
	"clockwork/ast"
	"fmt"
	"reflect"
	"regexp"
	"strings"
	"testing"
)

// The tests write operators, levels, lines and limits out, where the package computes with them.
const (
	mostName   = 16
	mostString = 64
	mostDepth  = 12
	mostNodes  = 400
	mostParams = 6
	mostLoop   = 16
	mostAbort  = 999
	mostLevels = 65536 // of which the document promises something
)

// form is the level of the expressions with an operator, and their text: A and B stand for the operands, with the levels at which they are written.
type form struct {
	level int
	text  string
}

var forms = map[int]form{
	api.EInt: {9, ""}, api.EStr: {9, ""}, api.EVar: {9, ""},
	api.EOr: {1, "A1 or B2"}, api.EAnd: {2, "A2 and B3"}, api.ENot: {3, "not A3"},
	api.EEq: {4, "A5 == B5"}, api.ENe: {4, "A5 != B5"}, api.ELt: {4, "A5 < B5"}, api.ELe: {4, "A5 <= B5"}, api.EGt: {4, "A5 > B5"}, api.EGe: {4, "A5 >= B5"},
	api.ECat: {5, "A5 ++ B6"}, api.EAdd: {6, "A6 + B7"}, api.ESub: {6, "A6 - B7"},
	api.EMul: {7, "A7 * B8"}, api.EDiv: {7, "A7 / B8"}, api.EMod: {7, "A7 % B8"}, api.ENeg: {8, "-A8"},
	api.EText: {9, "text(A0)"}, api.ELen: {9, "len(A0)"}, api.EGetInt: {9, "getint(A0)"}, api.EGetStr: {9, "getstr(A0)"}, api.EHas: {9, "has(A0)"},
	api.ENow: {9, "now()"}, api.ERandom: {9, "random()"}, api.ENode: {9, "node()"},
}

var stmtForms = map[int]string{
	api.SLet: "let NAME = A;\n", api.SSet: "NAME = A;\n", api.SPut: "put A = B;\n", api.SDelete: "delete A;\n", api.SEmit: "emit A;\n", api.SAbort: "abort MAX;\n",
	api.SIf: "if A {\nBODY}\n", api.SFor: "for NAME = A to B max MAX {\nBODY}\n",
}

const formWithElse = "if A {\nBODY} else {\nELSE}\n"

// textAtOf is the definition of the text of an expression at a level.
func textAtOf(e api.Expr, level int) string {
	if forms[e.Op].level < level {
		return "(" + textOf(e) + ")"
	}
	return textOf(e)
}

// textOf is the definition of the text of an expression.
func textOf(e api.Expr) string {
	switch e.Op {
	case api.EInt:
		return fmt.Sprint(e.N)
	case api.EStr:
		return `"` + strings.NewReplacer(`\`, `\\`, `"`, `\"`).Replace(e.S) + `"`
	case api.EVar:
		return e.S
	}
	text := forms[e.Op].text
	var marks []string
	for i, arg := range e.Args {
		for level := range 10 {
			mark := fmt.Sprintf("%c%d", 'A'+i, level)
			if strings.Contains(text, mark) {
				marks = append(marks, mark, textAtOf(arg, level))
			}
		}
	}
	return strings.NewReplacer(marks...).Replace(text)
}

// blockTextOf is the definition of the lines of statements in a block.
func blockTextOf(l []api.Stmt) string {
	var b strings.Builder
	for _, s := range l {
		for line := range strings.Lines(stmtTextOf(s)) {
			b.WriteString("    " + line)
		}
	}
	return b.String()
}

// stmtTextOf is the definition of the text of a statement.
func stmtTextOf(s api.Stmt) string {
	text := stmtForms[s.Op]
	if s.Op == api.SIf && len(s.Else) > 0 {
		text = formWithElse
	}
	marks := strings.NewReplacer("NAME", s.Name, "MAX", fmt.Sprint(s.Max), "BODY", blockTextOf(s.Body), "ELSE", blockTextOf(s.Else), "A", textOf(s.A), "B", textOf(s.B))
	return marks.Replace(text)
}

// procTextOf is the definition of the text of a procedure.
func procTextOf(p api.Proc) string {
	var params []string
	for _, x := range p.Params {
		params = append(params, x.Name+": "+map[int]string{api.TyInt: "int", api.TyStr: "str", api.TyBool: "bool"}[x.Type])
	}
	return "proc " + p.Name + "(" + strings.Join(params, ", ") + ") {\n" + blockTextOf(p.Body) + "}\n"
}

func number(n int64) api.Expr {
	return api.Expr{Op: api.EInt, N: n}
}

func text(s string) api.Expr {
	return api.Expr{Op: api.EStr, S: s}
}

func variable(s string) api.Expr {
	return api.Expr{Op: api.EVar, S: s}
}

func apply(op int, args ...api.Expr) api.Expr {
	return api.Expr{Op: op, Args: args}
}

func let(name string, a api.Expr) api.Stmt {
	return api.Stmt{Op: api.SLet, Name: name, A: a}
}

func set(name string, a api.Expr) api.Stmt {
	return api.Stmt{Op: api.SSet, Name: name, A: a}
}

func put(a, b api.Expr) api.Stmt {
	return api.Stmt{Op: api.SPut, A: a, B: b}
}

func remove(a api.Expr) api.Stmt {
	return api.Stmt{Op: api.SDelete, A: a}
}

func when(a api.Expr, then, otherwise []api.Stmt) api.Stmt {
	return api.Stmt{Op: api.SIf, A: a, Body: then, Else: otherwise}
}

func loop(name string, a, b api.Expr, most int, body ...api.Stmt) api.Stmt {
	return api.Stmt{Op: api.SFor, Name: name, A: a, B: b, Max: most, Body: body}
}

func emit(a api.Expr) api.Stmt {
	return api.Stmt{Op: api.SEmit, A: a}
}

func abort(code int) api.Stmt {
	return api.Stmt{Op: api.SAbort, Max: code}
}

func stmts(l ...api.Stmt) []api.Stmt {
	return l
}

func proc(body ...api.Stmt) api.Proc {
	return api.Proc{Name: "p", Body: body}
}

func param(name string, ty int) api.Param {
	return api.Param{Name: name, Type: ty}
}

func withParams(l ...api.Param) api.Proc {
	return api.Proc{Name: "p", Params: l}
}

// aborts returns n statements of one node each.
func aborts(n int) []api.Stmt {
	var l []api.Stmt
	for i := range n {
		l = append(l, abort(i%1000))
	}
	return l
}

// roomy returns the elements of l, each made by f, in front of one more element, which is not a part of the result.
func roomy[E any](l []E, edge E, f func(x E) E) []E {
	whole := make([]E, 0, len(l)+1)
	for _, x := range l {
		whole = append(whole, f(x))
	}
	return append(whole, edge)[:len(l)]
}

// roomyExpr returns a copy of e, with an operand behind those of each node, which must be neither used nor changed.
func roomyExpr(e api.Expr) api.Expr {
	e.S = strings.Clone(e.S)
	e.Args = roomy(e.Args, variable("edge"), roomyExpr)
	return e
}

func roomyStmt(s api.Stmt) api.Stmt {
	edge := loop("edge", variable("edge"), number(1), 1)
	s.Name, s.A, s.B = strings.Clone(s.Name), roomyExpr(s.A), roomyExpr(s.B)
	s.Body, s.Else = roomy(s.Body, edge, roomyStmt), roomy(s.Else, edge, roomyStmt)
	return s
}

// roomyProc returns a copy of p in which each list is a part of longer memory.
func roomyProc(p api.Proc) api.Proc {
	params := roomy(p.Params, param("edge", api.TyInt), func(x api.Param) api.Param { return param(strings.Clone(x.Name), x.Type) })
	return api.Proc{Name: strings.Clone(p.Name), Params: params, Body: roomy(p.Body, loop("edge", variable("edge"), number(1), 1), roomyStmt)}
}

func roomyProcs(l []api.Proc) []api.Proc {
	return roomy(l, api.Proc{Name: "edge"}, roomyProc)
}

// mapped returns what f makes of the elements, in a list that is not nil and has no room.
func mapped[E any](l []E, f func(x E) E) []E {
	result := make([]E, 0, len(l))
	for _, x := range l {
		result = append(result, f(x))
	}
	return result
}

// wholeExpr returns e with all the memory of its lists.
func wholeExpr(e api.Expr) api.Expr {
	e.Args = mapped(e.Args[:cap(e.Args)], wholeExpr)
	return e
}

func wholeStmt(s api.Stmt) api.Stmt {
	s.A, s.B = wholeExpr(s.A), wholeExpr(s.B)
	s.Body, s.Else = mapped(s.Body[:cap(s.Body)], wholeStmt), mapped(s.Else[:cap(s.Else)], wholeStmt)
	return s
}

func wholeProc(p api.Proc) api.Proc {
	return api.Proc{Name: p.Name, Params: p.Params[:cap(p.Params)], Body: mapped(p.Body[:cap(p.Body)], wholeStmt)}
}

func wholeProcs(l []api.Proc) []api.Proc {
	return mapped(l[:cap(l)], wholeProc)
}

// callExpr returns the result of Expr, and requires that it changes nothing of its argument.
func callExpr(t *testing.T, e api.Expr) string {
	t.Helper()
	arg := roomyExpr(e)
	got := Expr(arg)
	if !reflect.DeepEqual(wholeExpr(arg), wholeExpr(roomyExpr(e))) {
		t.Fatalf("Expr changes its argument %+v to %+v", e, arg)
	}
	return got
}

// callProgram does the same for Program, and for Proc if there is one procedure.
func callProgram(t *testing.T, l []api.Proc) string {
	t.Helper()
	args := roomyProcs(l)
	got := Program(args)
	if len(l) == 1 {
		if s := Proc(args[0]); s != got {
			t.Fatalf("Proc(%+v) = %q, but Program has %q", l[0], s, got)
		}
	}
	if !reflect.DeepEqual(wholeProcs(args), wholeProcs(roomyProcs(l))) {
		t.Fatalf("an argument of %+v is changed to %+v", l, args)
	}
	return got
}

// checkExpr requires the result of Expr, and what follows from the promise if e is valid.
func checkExpr(t *testing.T, e api.Expr, want string) {
	t.Helper()
	got := callExpr(t, e)
	if got != want {
		t.Fatalf("Expr(%+v) = %q, want %q", e, got, want)
	}
	if want == "" {
		checkNotValid(t, ast.ValidExpr(e))
		return
	}
	if ast.ValidExpr(e) != api.OK || textOf(e) != want {
		t.Fatalf("the test wants %q, where the definition has %q", want, textOf(e))
	}
	checkExprText(t, e, got)
}

// checkExprText requires of a text that it is that of e only.
func checkExprText(t *testing.T, e api.Expr, s string) {
	t.Helper()
	r := reader{t, s}
	if back := r.expr(1); r.rest != "" || !ast.Equal(proc(emit(back)), proc(emit(e))) {
		t.Fatalf("%q is the text of %+v, with the rest %q, and not of %+v", s, back, r.rest, e)
	}
	if strings.Contains(s, "\n") {
		t.Fatalf("%q has a line feed", s)
	}
	checkBraces(t, s)
}

// checkNotValid requires an error of package ast.
func checkNotValid(t *testing.T, e api.Errno) {
	t.Helper()
	if e == api.OK {
		t.Fatalf("the test takes a valid argument for one that is not")
	}
}

var literals = regexp.MustCompile(`"([^"\\]|\\.)*"`)

// checkBraces requires that the braces outside of strings come in pairs.
func checkBraces(t *testing.T, s string) {
	t.Helper()
	open := 0
	for _, r := range literals.ReplaceAllString(s, "") {
		switch r {
		case '{':
			open++
		case '}':
			open--
		}
		if open < 0 {
			t.Fatalf("%q has a closing brace too many", s)
		}
	}
	if open != 0 {
		t.Fatalf("%q has %d opening braces too many", s, open)
	}
}

// checkProgram requires the result of Program, and that of Proc if there is one procedure.
func checkProgram(t *testing.T, l []api.Proc, want string) {
	t.Helper()
	got := callProgram(t, l)
	if got != want {
		t.Fatalf("Program(%+v) =\n%s, want\n%s", l, got, want)
	}
	if want == "" {
		first := api.OK
		for _, p := range l {
			first = max(first, ast.Validate(p))
		}
		if len(l) > 0 {
			checkNotValid(t, first)
		}
		return
	}
	var texts []string
	for _, p := range l {
		texts = append(texts, procTextOf(p))
	}
	if all := strings.Join(texts, "\n"); all != want {
		t.Fatalf("the test wants\n%s, where the definition has\n%s", want, all)
	}
	checkProgramText(t, l, got)
}

// checkProgramText requires of a text that it is that of the procedures only.
func checkProgramText(t *testing.T, l []api.Proc, s string) {
	t.Helper()
	r := reader{t, s}
	for i, p := range l {
		if i > 0 {
			r.expect("\n")
		}
		if back := r.proc(); ast.Validate(p) != api.OK || !ast.Equal(back, p) {
			t.Fatalf("%q is the text of %+v, and not of %+v", s, back, p)
		}
	}
	r.expect("")
	if r.rest != "" {
		t.Fatalf("%q has the rest %q", s, r.rest)
	}
	checkBraces(t, s)
}

// checkProc does the same for one procedure.
func checkProc(t *testing.T, p api.Proc, want string) {
	t.Helper()
	checkProgram(t, []api.Proc{p}, want)
}

// checkStmt requires the lines of a statement, which the body of a procedure has alone, and between others.
func checkStmt(t *testing.T, s api.Stmt, lines ...string) {
	t.Helper()
	alone, deep := "", ""
	for _, line := range lines {
		alone += "    " + line + "\n"
		deep += "        " + line + "\n"
	}
	checkProc(t, proc(s), "proc p() {\n"+alone+"}\n")
	checkProc(t, proc(abort(1), s, s, abort(2)), "proc p() {\n    abort 1;\n"+alone+alone+"    abort 2;\n}\n")
	checkProc(t, proc(when(variable("x"), stmts(abort(1), s), nil)), "proc p() {\n    if x {\n        abort 1;\n"+deep+"    }\n}\n")
	checkProc(t, proc(when(variable("x"), nil, stmts(s, abort(1)))), "proc p() {\n    if x {\n    } else {\n"+deep+"        abort 1;\n    }\n}\n")
	checkProc(t, proc(loop("i", number(0), variable("n"), 7, s), s), "proc p() {\n    for i = 0 to n max 7 {\n"+deep+"    }\n"+alone+"}\n")
}
