package types

import (
	"clockwork/api"
	"clockwork/ast"
	"clockwork/parser"
	"clockwork/printer"
	"fmt"
	"slices"
	"strings"
	"testing"
)

// The tests write types, bytes and limits out, where the package computes with them.
const (
	letters    = "abcdefghijklmnopqrstuvwxyz"
	plainBytes = " !\"#$%&'()*+,-./0123456789:;<=>?@ABCDEFGHIJKLMNOPQRSTUVWXYZ[\\]^_`abcdefghijklmnopqrstuvwxyz{|}~"

	mostString = 64
	mostDepth  = 12
	mostNodes  = 400
	mostParams = 6
	mostLevels = 65536 // of which the document promises something
)

// signatures is the chapter's table: for each operator, the types of its operands and, behind the arrow, that of its result.
var signatures = map[int][]string{
	api.EInt: {"-> int"}, api.ENow: {"-> int"}, api.ERandom: {"-> int"}, api.ENode: {"-> int"}, api.EStr: {"-> str"},
	api.EAdd: {"int int -> int"}, api.ESub: {"int int -> int"}, api.EMul: {"int int -> int"}, api.EDiv: {"int int -> int"}, api.EMod: {"int int -> int"},
	api.ENeg: {"int -> int"},
	api.EEq:  {"int int -> bool", "str str -> bool", "bool bool -> bool"}, api.ENe: {"int int -> bool", "str str -> bool", "bool bool -> bool"},
	api.ELt: {"int int -> bool", "str str -> bool"}, api.ELe: {"int int -> bool", "str str -> bool"},
	api.EGt: {"int int -> bool", "str str -> bool"}, api.EGe: {"int int -> bool", "str str -> bool"},
	api.EAnd: {"bool bool -> bool"}, api.EOr: {"bool bool -> bool"}, api.ENot: {"bool -> bool"},
	api.ECat: {"str str -> str"}, api.EText: {"int -> str"}, api.ELen: {"str -> int"},
	api.EGetInt: {"str -> int"}, api.EGetStr: {"str -> str"}, api.EHas: {"str -> bool"},
}

var typeNames = map[int]string{1: "int", 2: "str", 3: "bool"}

var typeNumbers = map[string]int{"int": 1, "str": 2, "bool": 3}

func param(name string, ty int) api.Param {
	return api.Param{Name: name, Type: ty}
}

// leavesFirst lists the nodes of e from the leaves: each behind its operands.
func leavesFirst(e *api.Expr) []*api.Expr {
	var l []*api.Expr
	for i := range e.Args {
		l = append(l, leavesFirst(&e.Args[i])...)
	}
	return append(l, e)
}

// definedOf is the definition of the results of Of.
func definedOf(e api.Expr, vars []api.Param) (int, api.Errno) {
	if err := ast.ValidExpr(e); err != api.OK {
		return 0, err
	}
	types := map[*api.Expr]string{}
	for _, x := range leavesFirst(&e) {
		if x.Op == api.EVar {
			i := slices.IndexFunc(vars, func(v api.Param) bool { return v.Name == x.S })
			if i < 0 {
				return 0, api.ErrUnassigned
			}
			types[x] = typeNames[vars[i].Type]
		} else {
			operands := ""
			for i := range x.Args {
				operands += types[&x.Args[i]] + " "
			}
			for _, signature := range signatures[x.Op] {
				if result, ok := strings.CutPrefix(signature, operands+"-> "); ok {
					types[x] = result
				}
			}
		}
		if types[x] == "" {
			return 0, api.ErrType
		}
	}
	return typeNumbers[types[&e]], api.OK
}

// place is a statement and the way to it: the number of a statement of the body, 0 for its Body or 1 for its Else, the number of a statement in this list, and so on.
type place struct {
	stmt api.Stmt
	way  []int
}

// places lists the statements in preorder. list is the way to the list in which they stand.
func places(body []api.Stmt, list ...int) []place {
	var l []place
	for i, s := range body {
		way := slices.Concat(list, []int{i})
		l = append(l, place{s, way})
		l = append(l, places(s.Body, slices.Concat(way, []int{0})...)...)
		l = append(l, places(s.Else, slices.Concat(way, []int{1})...)...)
	}
	return l
}

// sees is the definition of the scope: it tells whether the variable that d declares is visible in s.
func sees(s, d place) bool {
	n := len(d.way) - 1
	switch d.stmt.Op {
	case api.SLet:
		return len(s.way) > n && slices.Equal(s.way[:n], d.way[:n]) && s.way[n] > d.way[n]
	case api.SFor:
		return len(s.way) > n+2 && slices.Equal(s.way[:n+1], d.way) && s.way[n+1] == 0
	default:
		return false
	}
}

// rule is a condition and the error that it is.
type rule struct {
	wrong bool
	e     api.Errno
}

// firstOf returns the first error that applies.
func firstOf(rules ...rule) api.Errno {
	for _, r := range rules {
		if r.wrong {
			return r.e
		}
	}
	return api.OK
}

// definedError is the definition of the error of one statement, and of the type of the variable that it declares.
func definedError(s api.Stmt, visible []api.Param, isLoop func(name string) bool) (api.Errno, int) {
	usesA := s.Op != api.SAbort
	usesB := s.Op == api.SPut || s.Op == api.SFor
	a, errA := definedOf(s.A, visible)
	b, errB := definedOf(s.B, visible)
	rules := []rule{{usesA && errA != api.OK, errA}, {usesB && errB != api.OK, errB}}
	declared := 0
	switch s.Op {
	case api.SLet:
		declared = a
	case api.SSet:
		ty, err := definedOf(api.Expr{Op: api.EVar, S: s.Name}, visible)
		rules = append(rules, rule{err != api.OK, api.ErrUnassigned}, rule{isLoop(s.Name), api.ErrName}, rule{a != ty, api.ErrType})
	case api.SPut:
		rules = append(rules, rule{a != 2, api.ErrType}, rule{b == 3, api.ErrType})
	case api.SDelete:
		rules = append(rules, rule{a != 2, api.ErrType})
	case api.SIf:
		rules = append(rules, rule{a != 3, api.ErrType})
	case api.SFor:
		declared = 1
		rules = append(rules, rule{a != 1, api.ErrType}, rule{b != 1, api.ErrType})
	case api.SEmit:
		rules = append(rules, rule{a == 3, api.ErrType})
	}
	return firstOf(rules...), declared
}

// definedCheck is the definition of the results of Check and Vars.
func definedCheck(p api.Proc) (api.Errno, []api.Param) {
	if e := ast.Validate(p); e != api.OK {
		return e, nil
	}
	if slices.ContainsFunc(p.Params, func(x api.Param) bool { return x.Type == 3 }) {
		return api.ErrType, nil
	}
	names := ast.Names(p)
	slices.Sort(names)
	if len(slices.Compact(names)) < len(ast.Names(p)) {
		return api.ErrDuplicate, nil
	}
	list := places(p.Body)
	isLoop := func(name string) bool {
		return slices.ContainsFunc(list, func(x place) bool { return x.stmt.Op == api.SFor && x.stmt.Name == name })
	}
	types := make([]int, len(list)) // of the variables that the statements declare
	vars := slices.Clone(p.Params)
	for i, x := range list {
		visible := slices.Clone(p.Params)
		for j, d := range list[:i] {
			if sees(x, d) {
				visible = append(visible, param(d.stmt.Name, types[j]))
			}
		}
		e, ty := definedError(x.stmt, visible, isLoop)
		if e != api.OK {
			return e, nil
		}
		types[i] = ty
		if ty != 0 {
			vars = append(vars, param(x.stmt.Name, ty))
		}
	}
	return api.OK, vars
}

// definedArgs is the definition of the result of Args.
func definedArgs(p api.Proc, args []api.Value) api.Errno {
	e, _ := definedCheck(p)
	rules := []rule{{e != api.OK, api.ErrArg}, {len(args) != len(p.Params), api.ErrArg}}
	for i := range min(len(args), len(p.Params)) {
		v := args[i]
		isInt := v.Kind == 1 && v.S == ""
		isStr := v.Kind == 2 && v.N == 0 && len(v.S) <= mostString && strings.Trim(v.S, plainBytes) == ""
		rules = append(rules, rule{p.Params[i].Type == 1 && !isInt, api.ErrType}, rule{p.Params[i].Type == 2 && !isStr, api.ErrType})
	}
	return firstOf(rules...)
}

// expr returns the tree of the source text.
func expr(t *testing.T, src string) api.Expr {
	t.Helper()
	e, _, err := parser.Expr(src)
	if err != api.OK {
		t.Fatalf("the expression %q has the error %d", src, err)
	}
	return e
}

// proc returns the tree of a procedure with the parameters n: int and s: str, and this body.
func proc(t *testing.T, body string) api.Proc {
	t.Helper()
	return procOf(t, "proc p(n: int, s: str) {"+body+"}")
}

// procOf returns the tree of the source text.
func procOf(t *testing.T, src string) api.Proc {
	t.Helper()
	p, line, e := parser.Proc(src)
	if e != api.OK {
		t.Fatalf("the procedure %q has the error %d at line %d", src, e, line)
	}
	return p
}

// show returns the text of p for messages.
func show(p api.Proc) string {
	if text := printer.Proc(p); text != "" {
		return text
	}
	text := fmt.Sprintf("%+v", p)
	return text[:min(len(text), 2000)]
}

// checkOf requires the results of Of, and those of the definition.
func checkOf(t *testing.T, e api.Expr, vars []api.Param, want int, wantError api.Errno) {
	t.Helper()
	if ty, err := Of(e, vars); ty != want || err != wantError {
		t.Fatalf("Of(%+v, %+v) = %d, %d, want %d, %d", e, vars, ty, err, want, wantError)
	}
	if ty, err := definedOf(e, vars); ty != want || err != wantError {
		t.Fatalf("the test takes %d, %d for the results of %+v with %+v, and not %d, %d", ty, err, e, vars, want, wantError)
	}
}

// checkProc requires the result of Check, and the results of Check and Vars that the definition has.
func checkProc(t *testing.T, p api.Proc, want api.Errno) {
	t.Helper()
	if e := Check(p); e != want {
		t.Fatalf("Check = %d, want %d, of\n%s", e, want, show(p))
	}
	e, vars := definedCheck(p)
	if e != want {
		t.Fatalf("the test takes the error %d, and not %d, for that of\n%s", e, want, show(p))
	}
	if got := Vars(p); !slices.Equal(got, vars) {
		t.Fatalf("Vars = %+v, want %+v, of\n%s", got, vars, show(p))
	}
}

// checkBody does the same for the procedure with the parameters n: int and s: str, and this body.
func checkBody(t *testing.T, body string, want api.Errno) {
	t.Helper()
	checkProc(t, proc(t, body), want)
}

// checkArgs requires the result of Args, and that of the definition.
func checkArgs(t *testing.T, p api.Proc, args []api.Value, want api.Errno) {
	t.Helper()
	if e := Args(p, args); e != want {
		t.Fatalf("Args(%+v) = %d, want %d, of\n%s", args, e, want, show(p))
	}
	if e := definedArgs(p, args); e != want {
		t.Fatalf("the test takes the error %d for that of %+v, and not %d, of\n%s", e, args, want, show(p))
	}
}
