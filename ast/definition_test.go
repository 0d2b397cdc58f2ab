package ast

import (
	"clockwork/api"
	"fmt"
	"reflect"
	"slices"
	"strings"
	"testing"
)

// The tests write operators, fields, bytes and limits out, where the package computes with them.
const (
	keywordList = "proc let put delete if else for to max emit abort not and or int str bool text len getint getstr has now random node"
	letters     = "abcdefghijklmnopqrstuvwxyz"
	wordBytes   = letters + "0123456789_"
	plainBytes  = " !\"#$%&'()*+,-./0123456789:;<=>?@ABCDEFGHIJKLMNOPQRSTUVWXYZ[\\]^_`abcdefghijklmnopqrstuvwxyz{|}~"

	mostName   = 16
	mostString = 64
	mostDepth  = 12
	mostNodes  = 400
	mostParams = 6
	mostLoop   = 16
	mostAbort  = 999
	mostLevels = 65536 // of which the document promises something
)

// arities are the numbers of operands.
func arities() map[int]int {
	return map[int]int{
		api.EInt: 0, api.EStr: 0, api.EVar: 0, api.EAdd: 2, api.ESub: 2, api.EMul: 2, api.EDiv: 2, api.EMod: 2, api.ENeg: 1,
		api.EEq: 2, api.ENe: 2, api.ELt: 2, api.ELe: 2, api.EGt: 2, api.EGe: 2, api.EAnd: 2, api.EOr: 2, api.ENot: 1,
		api.ECat: 2, api.EText: 1, api.ELen: 1, api.EGetInt: 1, api.EGetStr: 1, api.EHas: 1, api.ENow: 0, api.ERandom: 0, api.ENode: 0,
	}
}

// usedNames are the fields that each operator of statements uses.
func usedNames() map[int]string {
	return map[int]string{
		api.SLet: "Name A", api.SSet: "Name A", api.SPut: "A B", api.SDelete: "A", api.SIf: "A Body Else",
		api.SFor: "Name A B Max Body", api.SEmit: "A", api.SAbort: "Max",
	}
}

// uses tells whether statements with the operator use the field.
func uses(op int, field string) bool {
	return slices.Contains(strings.Fields(usedNames()[op]), field)
}

func number(n int64) api.Expr {
	return api.Expr{Op: api.EInt, N: n}
}

func text(s string) api.Expr {
	return api.Expr{Op: api.EStr, S: s}
}

func variable(s string) api.Expr {
	return api.Expr{Op: api.EVar, S: s}
}

func apply(op int, args ...api.Expr) api.Expr {
	return api.Expr{Op: op, Args: args}
}

// leaf returns an expression of one node with the operator, which has no operands.
func leaf(op int) api.Expr {
	e := api.Expr{Op: op}
	if op == api.EVar {
		e.S = "x"
	}
	return e
}

// simple returns an expression with the operator, whose operands are integers.
func simple(op int) api.Expr {
	e := leaf(op)
	for i := range arities()[op] {
		e.Args = append(e.Args, number(int64(i)))
	}
	return e
}

func let(name string, a api.Expr) api.Stmt {
	return api.Stmt{Op: api.SLet, Name: name, A: a}
}

func set(name string, a api.Expr) api.Stmt {
	return api.Stmt{Op: api.SSet, Name: name, A: a}
}

func put(a, b api.Expr) api.Stmt {
	return api.Stmt{Op: api.SPut, A: a, B: b}
}

func remove(a api.Expr) api.Stmt {
	return api.Stmt{Op: api.SDelete, A: a}
}

func when(a api.Expr, then, otherwise []api.Stmt) api.Stmt {
	return api.Stmt{Op: api.SIf, A: a, Body: then, Else: otherwise}
}

func loop(name string, a, b api.Expr, most int, body ...api.Stmt) api.Stmt {
	return api.Stmt{Op: api.SFor, Name: name, A: a, B: b, Max: most, Body: body}
}

func emit(a api.Expr) api.Stmt {
	return api.Stmt{Op: api.SEmit, A: a}
}

func abort(code int) api.Stmt {
	return api.Stmt{Op: api.SAbort, Max: code}
}

func stmts(l ...api.Stmt) []api.Stmt {
	return l
}

func proc(body ...api.Stmt) api.Proc {
	return api.Proc{Name: "p", Body: body}
}

func param(name string, ty int) api.Param {
	return api.Param{Name: name, Type: ty}
}

func withParams(l ...api.Param) api.Proc {
	return api.Proc{Name: "p", Params: l}
}

// aborts returns n statements of one node each.
func aborts(n int) []api.Stmt {
	var l []api.Stmt
	for i := range n {
		l = append(l, abort(i%1000))
	}
	return l
}

func allKeywords() []string {
	return strings.Fields(keywordList)
}

// isNameText is the definition of a name.
func isNameText(s string) bool {
	return s != "" && len(s) <= mostName && strings.Trim(s, wordBytes) == "" && strings.Contains(letters, s[:1]) && !slices.Contains(allKeywords(), s)
}

// isPlainText is the definition of what an EStr may have.
func isPlainText(s string) bool {
	return len(s) <= mostString && strings.Trim(s, plainBytes) == ""
}

func isZero(e api.Expr) bool {
	return e.Op == 0 && e.N == 0 && e.S == "" && len(e.Args) == 0
}

// place is where a statement or a node of an expression stands.
type place struct {
	stmt  *api.Stmt
	expr  *api.Expr
	depth int
}

// exprPlaces lists the nodes of e in preorder.
func exprPlaces(e *api.Expr, depth int) []place {
	l := []place{{expr: e, depth: depth}}
	for i := range e.Args {
		l = append(l, exprPlaces(&e.Args[i], depth+1)...)
	}
	return l
}

// stmtPlaces lists all nodes of the statements in preorder, beyond the end of the walk, too.
func stmtPlaces(body []api.Stmt, depth int) []place {
	var l []place
	for i := range body {
		s := &body[i]
		l = append(l, place{stmt: s, depth: depth})
		for _, e := range []*api.Expr{&s.A, &s.B} {
			if !isZero(*e) {
				l = append(l, exprPlaces(e, 1)...)
			}
		}
		l = append(l, stmtPlaces(s.Body, depth+1)...)
		l = append(l, stmtPlaces(s.Else, depth+1)...)
	}
	return l
}

// walkOf is the definition of the walk.
func walkOf(p api.Proc) []place {
	l := stmtPlaces(p.Body, 1)
	return l[:min(len(l), mostNodes+1)]
}

// rule is a condition and the error that it is.
type rule struct {
	wrong bool
	e     api.Errno
}

// firstOf returns the first error that applies.
func firstOf(rules ...rule) api.Errno {
	for _, r := range rules {
		if r.wrong {
			return r.e
		}
	}
	return api.OK
}

// nodeErrorOf is the definition of the error of one node of an expression.
func nodeErrorOf(e api.Expr, depth int) api.Errno {
	arity, known := arities()[e.Op]
	return firstOf(
		rule{!known, api.ErrArg},
		rule{e.Op != api.EInt && e.N != 0, api.ErrArg},
		rule{e.Op != api.EStr && e.Op != api.EVar && e.S != "", api.ErrArg},
		rule{e.Op == api.EVar && !isNameText(e.S), api.ErrName},
		rule{e.Op == api.EInt && e.N < 0, api.ErrArg},
		rule{e.Op == api.EStr && !isPlainText(e.S), api.ErrArg},
		rule{len(e.Args) != arity, api.ErrArg},
		rule{depth > mostDepth, api.ErrLimit},
	)
}

// exprErrorOf is the definition of the result of ValidExpr.
func exprErrorOf(e api.Expr) api.Errno {
	for _, x := range exprPlaces(&e, 1) {
		if err := nodeErrorOf(*x.expr, x.depth); err != api.OK {
			return err
		}
	}
	return api.OK
}

// stmtErrorOf is the definition of the error of one statement.
func stmtErrorOf(s api.Stmt, depth int) api.Errno {
	_, known := usedNames()[s.Op]
	errA, errB := exprErrorOf(s.A), exprErrorOf(s.B)
	return firstOf(
		rule{!known, api.ErrArg},
		rule{!uses(s.Op, "Name") && s.Name != "", api.ErrArg},
		rule{!uses(s.Op, "Max") && s.Max != 0, api.ErrArg},
		rule{!uses(s.Op, "A") && !isZero(s.A), api.ErrArg},
		rule{!uses(s.Op, "B") && !isZero(s.B), api.ErrArg},
		rule{!uses(s.Op, "Body") && len(s.Body) > 0, api.ErrArg},
		rule{!uses(s.Op, "Else") && len(s.Else) > 0, api.ErrArg},
		rule{s.Op == api.SFor && (s.Max < 1 || s.Max > mostLoop), api.ErrArg},
		rule{s.Op == api.SAbort && (s.Max < 0 || s.Max > mostAbort), api.ErrArg},
		rule{uses(s.Op, "Name") && !isNameText(s.Name), api.ErrName},
		rule{uses(s.Op, "A") && errA != api.OK, errA},
		rule{uses(s.Op, "B") && errB != api.OK, errB},
		rule{depth > mostDepth, api.ErrLimit},
	)
}

// procErrorOf is the definition of the result of Validate.
func procErrorOf(p api.Proc) api.Errno {
	rules := []rule{{!isNameText(p.Name), api.ErrName}, {len(p.Params) > mostParams, api.ErrLimit}}
	earlier := map[string]bool{}
	for _, x := range p.Params {
		rules = append(rules, rule{!isNameText(x.Name), api.ErrName}, rule{x.Type < 1 || x.Type > 3, api.ErrType}, rule{earlier[x.Name], api.ErrDuplicate})
		earlier[x.Name] = true
	}
	for _, x := range walkOf(p) {
		if x.stmt != nil {
			e := stmtErrorOf(*x.stmt, x.depth)
			rules = append(rules, rule{e != api.OK, e})
		}
	}
	return firstOf(append(rules, rule{len(walkOf(p)) > mostNodes, api.ErrLimit})...)
}

// depthOf is the definition of the result of Depth.
func depthOf(p api.Proc) int {
	depths := []int{0}
	for _, x := range walkOf(p) {
		if x.stmt != nil {
			depths = append(depths, x.depth)
		}
	}
	return slices.Max(depths)
}

// exprsOf is the definition of the result of Exprs.
func exprsOf(p api.Proc) []api.Expr {
	first := map[*api.Expr]bool{}
	for _, x := range walkOf(p) {
		first[x.expr] = true
	}
	var l []api.Expr
	for _, x := range stmtPlaces(p.Body, 1) {
		if x.stmt == nil {
			continue
		}
		for _, e := range []*api.Expr{&x.stmt.A, &x.stmt.B} {
			if first[e] {
				l = append(l, *e)
			}
		}
	}
	return l
}

// namesOf is the definition of the result of Names.
func namesOf(p api.Proc) []string {
	var l []string
	for _, x := range p.Params {
		l = append(l, x.Name)
	}
	for _, x := range walkOf(p) {
		if x.stmt != nil && (x.stmt.Op == api.SLet || x.stmt.Op == api.SFor) {
			l = append(l, x.stmt.Name)
		}
	}
	return l
}

// wordsOf lists the names that occur in p: the declared ones, those of assignments, and those of variables.
func wordsOf(p api.Proc) []string {
	l := namesOf(p)
	for _, x := range walkOf(p) {
		if x.stmt != nil && x.stmt.Op == api.SSet {
			l = append(l, x.stmt.Name)
		}
		if x.expr != nil && x.expr.Op == api.EVar {
			l = append(l, x.expr.S)
		}
	}
	return l
}

// renamedOf is the definition of the result of Rename.
func renamedOf(p api.Proc, from, to string) (api.Proc, api.Errno) {
	e := firstOf(
		rule{procErrorOf(p) != api.OK, api.ErrArg},
		rule{!isNameText(to), api.ErrName},
		rule{!slices.Contains(namesOf(p), from), api.ErrNotFound},
		rule{slices.Contains(wordsOf(p), to), api.ErrDuplicate},
	)
	if e != api.OK {
		return api.Proc{}, e
	}
	q := roomyProc(p)
	change := func(name *string) {
		if *name == from {
			*name = to
		}
	}
	for i := range q.Params {
		change(&q.Params[i].Name)
	}
	for _, x := range walkOf(q) {
		switch {
		case x.expr != nil && x.expr.Op == api.EVar:
			change(&x.expr.S)
		case x.stmt != nil && (x.stmt.Op == api.SLet || x.stmt.Op == api.SSet || x.stmt.Op == api.SFor):
			change(&x.stmt.Name)
		}
	}
	return q, api.OK
}

// roomy returns the elements of l, each made by f, in front of one more element, which is not a part of the result.
func roomy[E any](l []E, edge E, f func(x E) E) []E {
	whole := make([]E, 0, len(l)+1)
	for _, x := range l {
		whole = append(whole, f(x))
	}
	return append(whole, edge)[:len(l)]
}

// roomyExpr returns a copy of e, with an operand behind those of each node, which must be neither used nor changed.
func roomyExpr(e api.Expr) api.Expr {
	e.S = strings.Clone(e.S)
	e.Args = roomy(e.Args, variable("edge"), roomyExpr)
	return e
}

func roomyStmt(s api.Stmt) api.Stmt {
	edge := loop("edge", variable("edge"), number(1), 1)
	s.Name, s.A, s.B = strings.Clone(s.Name), roomyExpr(s.A), roomyExpr(s.B)
	s.Body, s.Else = roomy(s.Body, edge, roomyStmt), roomy(s.Else, edge, roomyStmt)
	return s
}

// roomyProc returns a copy of p in which each list is a part of longer memory.
func roomyProc(p api.Proc) api.Proc {
	params := roomy(p.Params, param("edge", api.TyInt), func(x api.Param) api.Param { return param(strings.Clone(x.Name), x.Type) })
	return api.Proc{Name: strings.Clone(p.Name), Params: params, Body: roomy(p.Body, loop("edge", variable("edge"), number(1), 1), roomyStmt)}
}

// wholeExpr returns e with all the memory of its lists.
func wholeExpr(e api.Expr) api.Expr {
	e.Args = mapped(e.Args[:cap(e.Args)], wholeExpr)
	return e
}

func wholeStmt(s api.Stmt) api.Stmt {
	s.A, s.B = wholeExpr(s.A), wholeExpr(s.B)
	s.Body, s.Else = mapped(s.Body[:cap(s.Body)], wholeStmt), mapped(s.Else[:cap(s.Else)], wholeStmt)
	return s
}

func wholeProc(p api.Proc) api.Proc {
	return api.Proc{Name: p.Name, Params: p.Params[:cap(p.Params)], Body: mapped(p.Body[:cap(p.Body)], wholeStmt)}
}

// listed returns e with lists that are not nil.
func listed(e api.Expr) api.Expr {
	e.Args = mapped(e.Args, listed)
	return e
}

func listedStmt(s api.Stmt) api.Stmt {
	s.A, s.B, s.Body, s.Else = listed(s.A), listed(s.B), mapped(s.Body, listedStmt), mapped(s.Else, listedStmt)
	return s
}

// isSame tells whether p and q are equal in all fields, but for lists that are nil or empty.
func isSame(p, q api.Proc) bool {
	same := slices.Equal(p.Params, q.Params) && p.Name == q.Name
	return same && reflect.DeepEqual(mapped(p.Body, listedStmt), mapped(q.Body, listedStmt))
}

// mapped returns what f makes of the elements, in a list that is not nil and has no room.
func mapped[E any](l []E, f func(x E) E) []E {
	result := make([]E, 0, len(l))
	for _, x := range l {
		result = append(result, f(x))
	}
	return result
}

// show returns a text that is the same for values that are equal in all fields, but for lists that are nil or empty.
func show(x any) string {
	s := fmt.Sprintf("%#v", x)
	for _, name := range []string{"api.Expr", "api.Stmt", "api.Param", "string"} {
		s = strings.ReplaceAll(s, "[]"+name+"(nil)", "[]"+name+"{}")
	}
	return s
}

// onProc calls f with a copy of p, and requires that f changes nothing of it, also not behind its lists.
func onProc[R any](t *testing.T, p api.Proc, f func(p api.Proc) R) R {
	t.Helper()
	arg := roomyProc(p)
	result := f(arg)
	if got, want := wholeProc(arg), wholeProc(roomyProc(p)); !reflect.DeepEqual(got, want) {
		t.Fatalf("the argument %+v was changed to %+v", want, got)
	}
	return result
}

// checkExpr requires the result of ValidExpr, and that of the definition.
func checkExpr(t *testing.T, e api.Expr, want api.Errno) {
	t.Helper()
	arg, same := roomyExpr(e), roomyExpr(e)
	if got := ValidExpr(arg); got != want {
		t.Fatalf("ValidExpr(%+v) = %d, want %d", e, got, want)
	}
	if show(wholeExpr(arg)) != show(wholeExpr(same)) {
		t.Fatalf("ValidExpr(%+v) changes its argument to %+v", e, arg)
	}
	if got := exprErrorOf(e); got != want {
		t.Fatalf("the test takes the error %d for that of %+v, and not %d", got, e, want)
	}
}

// checkValidate requires the result of Validate, and that of the definition.
func checkValidate(t *testing.T, p api.Proc, want api.Errno) {
	t.Helper()
	if got := onProc(t, p, Validate); got != want {
		t.Fatalf("Validate(%+v) = %d, want %d", p, got, want)
	}
	if got := procErrorOf(p); got != want {
		t.Fatalf("the test takes the error %d for that of %+v, and not %d", got, p, want)
	}
}

// checkStmt requires the result of Validate for a procedure of this statement, also between others.
func checkStmt(t *testing.T, s api.Stmt, want api.Errno) {
	t.Helper()
	checkValidate(t, proc(s), want)
	checkValidate(t, proc(abort(1), s, abort(2)), want)
	checkValidate(t, proc(when(number(1), stmts(s), nil)), want)
	checkValidate(t, proc(when(number(1), stmts(abort(1)), stmts(abort(2), s))), want)
	checkValidate(t, proc(loop("i", number(0), number(2), 2, emit(number(1)), s)), want)
}

// checkWalk requires the definitions of the results of all functions of one procedure.
func checkWalk(t *testing.T, p api.Proc) {
	t.Helper()
	type results struct {
		e            api.Errno
		nodes, depth int
		exprs        []api.Expr
		names        []string
	}
	got := onProc(t, p, func(p api.Proc) results {
		return results{Validate(p), Nodes(p), Depth(p), mapped(Exprs(p), listed), slices.Concat([]string{}, Names(p))}
	})
	want := results{procErrorOf(p), len(walkOf(p)), depthOf(p), mapped(exprsOf(p), listed), slices.Concat([]string{}, namesOf(p))}
	if !reflect.DeepEqual(got, want) {
		t.Fatalf("of %+v: got %+v, want %+v", p, got, want)
	}
}

// checkRename requires the result of Rename, which is no procedure if it is an error.
func checkRename(t *testing.T, p api.Proc, from, to string, want api.Proc, e api.Errno) {
	t.Helper()
	type result struct {
		p api.Proc
		e api.Errno
	}
	got := onProc(t, p, func(p api.Proc) result {
		q, e := Rename(p, from, to)
		return result{q, e}
	})
	if !isSame(got.p, want) || got.e != e {
		t.Fatalf("Rename(%+v, %q, %q) = %+v, %d, want %+v, %d", p, from, to, got.p, got.e, want, e)
	}
}

// checkEqual requires the result of Equal, in both orders.
func checkEqual(t *testing.T, a, b api.Proc, want bool) {
	t.Helper()
	for range 2 {
		got := onProc(t, a, func(a api.Proc) bool {
			return onProc(t, b, func(b api.Proc) bool { return Equal(a, b) })
		})
		if got != want {
			t.Fatalf("Equal(%+v, %+v) = %t", a, b, got)
		}
		a, b = b, a
	}
}
