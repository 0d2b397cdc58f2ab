package types

import (
	"clockwork/api"
	"fmt"
	"reflect"
	"runtime"
	"slices"
	"strings"
	"testing"
	"unsafe"
)

// roomy returns the elements of l, each made by f, in front of one more element, which is not a part of the result.
func roomy[E any](l []E, edge E, f func(x E) E) []E {
	whole := make([]E, 0, len(l)+1)
	for _, x := range l {
		whole = append(whole, f(x))
	}
	return append(whole, edge)[:len(l)]
}

func roomyExpr(e api.Expr) api.Expr {
	e.S = strings.Clone(e.S)
	e.Args = roomy(e.Args, api.Expr{Op: api.EVar, S: "edge"}, roomyExpr)
	return e
}

func roomyStmt(s api.Stmt) api.Stmt {
	edge := api.Stmt{Op: api.SLet, Name: "edge"}
	s.Name, s.A, s.B = strings.Clone(s.Name), roomyExpr(s.A), roomyExpr(s.B)
	s.Body, s.Else = roomy(s.Body, edge, roomyStmt), roomy(s.Else, edge, roomyStmt)
	return s
}

func roomyParams(l []api.Param) []api.Param {
	return roomy(l, param("edge", api.TyInt), func(x api.Param) api.Param { return param(strings.Clone(x.Name), x.Type) })
}

// roomyProc returns a copy of p in which each list is a part of longer memory.
func roomyProc(p api.Proc) api.Proc {
	return api.Proc{Name: strings.Clone(p.Name), Params: roomyParams(p.Params), Body: roomy(p.Body, api.Stmt{Op: api.SLet, Name: "edge"}, roomyStmt)}
}

// wholeList returns the list with all its memory, of which f returns each element.
func wholeList[E any](l []E, f func(x E) E) []E {
	whole := slices.Clone(l[:cap(l)])
	for i := range whole {
		whole[i] = f(whole[i])
	}
	return whole
}

func wholeExpr(e api.Expr) api.Expr {
	e.Args = wholeList(e.Args, wholeExpr)
	return e
}

func wholeStmt(s api.Stmt) api.Stmt {
	s.A, s.B, s.Body, s.Else = wholeExpr(s.A), wholeExpr(s.B), wholeList(s.Body, wholeStmt), wholeList(s.Else, wholeStmt)
	return s
}

// wholeProc returns p with all the memory of its lists.
func wholeProc(p api.Proc) api.Proc {
	return api.Proc{Name: p.Name, Params: p.Params[:cap(p.Params)], Body: wholeList(p.Body, wholeStmt)}
}

// TestP0_4Arguments requires that nothing of an argument is changed, also not behind its lists, and that nothing behind them is used.
func TestP0_4Arguments(t *testing.T) {
	for _, p := range randomProcs(2000) {
		want, vars := definedCheck(p)
		arg := roomyProc(p)
		args := roomy(fitting(p), api.Value{}, func(v api.Value) api.Value { return v })
		before := slices.Clone(args[:cap(args)])
		if e, l := Check(arg), Vars(arg); e != want || !slices.Equal(l, vars) || Args(arg, args) != definedArgs(p, args) {
			t.Fatalf("Check = %d, Vars = %+v of\n%s", e, l, show(p))
		}
		if !reflect.DeepEqual(wholeProc(arg), wholeProc(roomyProc(p))) || !slices.Equal(args[:cap(args)], before) {
			t.Fatalf("the argument was changed:\n%s", show(p))
		}
	}
	g := newGenerator(6)
	for i := range 2000 {
		g.errors = i % 3
		vars := g.params()
		e := g.expr(1+g.IntN(3), 1+g.IntN(5), vars)
		want, wantError := definedOf(e, vars)
		argE, argVars := roomyExpr(e), roomyParams(vars)
		checkOf(t, argE, argVars, want, wantError)
		if !reflect.DeepEqual(wholeExpr(argE), wholeExpr(roomyExpr(e))) || !slices.Equal(argVars[:cap(argVars)], roomyParams(vars)[:len(vars)+1]) {
			t.Fatalf("the arguments %+v, %+v were changed", e, vars)
		}
	}
}

// memory is a part of the memory, from its first byte to the one behind its last one.
type memory struct{ start, end uintptr }

func textMemory(s string) memory {
	start := uintptr(unsafe.Pointer(unsafe.StringData(s)))
	return memory{start, start + uintptr(len(s))}
}

// paramsMemory returns the memory of the list, with what is behind its last element, and that of its names.
func paramsMemory(list []api.Param) []memory {
	start := uintptr(unsafe.Pointer(unsafe.SliceData(list)))
	l := []memory{{start, start + uintptr(cap(list))*unsafe.Sizeof(api.Param{})}}
	for _, x := range list {
		l = append(l, textMemory(x.Name))
	}
	return l
}

// TestP0_4NewMemory requires that results share no memory with the argument, with one another, and within themselves.
func TestP0_4NewMemory(t *testing.T) {
	count := 0
	for _, p := range randomProcs(500) {
		p = roomyProc(p)
		first, second := Vars(p), Vars(p)
		others := paramsMemory(p.Params)
		for _, x := range places(p.Body) {
			others = append(others, textMemory(x.stmt.Name))
		}
		for _, part := range slices.Concat(paramsMemory(first), paramsMemory(second)) {
			for _, other := range others {
				if part.start < other.end && other.start < part.end {
					t.Fatalf("results of Vars share memory with others of\n%s", show(p))
				}
			}
			if part.start < part.end {
				count++
				others = append(others, part)
			}
		}
		// Memory that is given back could be that of the next result.
		runtime.KeepAlive([]any{p, first, second})
	}
	if count < 1000 {
		t.Errorf("the results have %d parts", count)
	}
}

// TestP0_4NothingKept requires that a call does not depend on other ones, nor on what became of their results.
func TestP0_4NothingKept(t *testing.T) {
	p := proc(t, "let x = has(s); for i = 0 to n max 2 { let y = s; }")
	want := fmt.Sprint(Vars(p))
	for range 3 {
		l := Vars(p)
		if fmt.Sprint(l) != want || Check(p) != api.OK {
			t.Fatalf("Vars = %+v", l)
		}
		for i := range l[:cap(l)] {
			l[:cap(l)][i] = param("changed", 7)
		}
		checkBody(t, "emit x;", api.ErrUnassigned)
		checkBody(t, "emit i;", api.ErrUnassigned)
		checkBody(t, "let i = 0; i = 1;", api.OK)
		checkBody(t, "for x = 0 to 1 max 1 { x = 1; }", api.ErrName)
		checkOf(t, expr(t, "x"), nil, 0, api.ErrUnassigned)
		checkOf(t, expr(t, "n"), []api.Param{param("n", 3)}, 3, api.OK)
	}
}

// TestP0_1Together calls the functions at the same time.
func TestP0_1Together(t *testing.T) {
	procs := randomProcs(200)
	done := make(chan bool)
	for range 8 {
		go func() {
			same := true
			for _, p := range procs {
				e, vars := definedCheck(p)
				same = same && Check(p) == e && slices.Equal(Vars(p), vars)
			}
			done <- same
		}()
	}
	for range 8 {
		if !<-done {
			t.Error("calls at the same time have different results")
		}
	}
}

// TestP0_1Levels has as many levels of nesting as the document speaks of.
func TestP0_1Levels(t *testing.T) {
	e := api.Expr{Op: api.EVar, S: "x"}
	body := []api.Stmt{{Op: api.SEmit, A: e}}
	for range mostLevels - 1 {
		e = api.Expr{Op: api.ENeg, Args: []api.Expr{e}}
		body = []api.Stmt{{Op: api.SIf, A: api.Expr{Op: api.EVar, S: "x"}, Body: body}}
	}
	if ty, err := Of(e, nil); ty != 0 || err != api.ErrLimit {
		t.Errorf("Of = %d, %d", ty, err)
	}
	for _, p := range []api.Proc{{Name: "p", Body: body}, {Name: "p", Body: []api.Stmt{{Op: api.SEmit, A: e}}}} {
		if e, l, err := Check(p), Vars(p), Args(p, nil); e != api.ErrLimit || l != nil || err != api.ErrArg {
			t.Errorf("Check = %d, Vars = %+v, Args = %d", e, l, err)
		}
	}
}

// TestP0_1NoEnd has lists that contain themselves, and so are nested without end.
func TestP0_1NoEnd(t *testing.T) {
	e := api.Expr{Op: api.ENeg, Args: make([]api.Expr, 1)}
	e.Args[0] = e
	if ty, err := Of(e, nil); ty != 0 || err != api.ErrLimit {
		t.Errorf("Of = %d, %d", ty, err)
	}
	body := proc(t, "if has(s) { emit 1; } else { emit 2; }").Body
	body[0].Body, body[0].Else = body, body
	for _, p := range []api.Proc{{Name: "p", Body: body}, {Name: "p", Body: []api.Stmt{{Op: api.SLet, Name: "x", A: e}}}} {
		if e, l, err := Check(p), Vars(p), Args(p, nil); e == api.OK || l != nil || err != api.ErrArg {
			t.Errorf("Check = %d, Vars = %+v, Args = %d", e, l, err)
		}
	}
}

// TestP0_1Sharing has a list that stands in many places of an expression.
func TestP0_1Sharing(t *testing.T) {
	e := expr(t, "n")
	for range mostDepth - 1 {
		e = api.Expr{Op: api.EAdd, Args: []api.Expr{e, e}}
	}
	checkOf(t, e, []api.Param{param("n", 1)}, 1, api.OK)
	checkOf(t, e, []api.Param{param("n", 2)}, 0, api.ErrType)
	checkOf(t, e, nil, 0, api.ErrUnassigned)
}
