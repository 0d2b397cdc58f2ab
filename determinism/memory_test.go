package determinism

import (
	"clockwork/api"
	"reflect"
	"slices"
	"strings"
	"testing"
)

// roomy returns the elements of l, each made by f, in front of one more element, which is not a part of the result.
func roomy[E any](l []E, edge E, f func(x E) E) []E {
	whole := make([]E, 0, len(l)+1)
	for _, x := range l {
		whole = append(whole, f(x))
	}
	return append(whole, edge)[:len(l)]
}

func roomyExpr(e api.Expr) api.Expr {
	e.S = strings.Clone(e.S)
	e.Args = roomy(e.Args, api.Expr{Op: api.ENow}, roomyExpr)
	return e
}

func roomyStmt(s api.Stmt) api.Stmt {
	edge := api.Stmt{Op: api.SEmit, A: api.Expr{Op: api.ENow}}
	s.A, s.B = roomyExpr(s.A), roomyExpr(s.B)
	s.Body, s.Else = roomy(s.Body, edge, roomyStmt), roomy(s.Else, edge, roomyStmt)
	return s
}

// roomyProc returns a copy of p in which each list is a part of longer memory, with a nondeterministic operator behind it.
func roomyProc(p api.Proc) api.Proc {
	outer := api.Stmt{Body: p.Body}
	params := roomy(p.Params, api.Param{Name: "edge", Type: api.TyBool}, func(x api.Param) api.Param { return x })
	return api.Proc{Name: p.Name, Params: params, Body: roomyStmt(outer).Body}
}

// wholeList returns the list with all its memory, of which f returns each element.
func wholeList[E any](l []E, f func(x E) E) []E {
	whole := slices.Clone(l[:cap(l)])
	for i := range whole {
		whole[i] = f(whole[i])
	}
	return whole
}

func wholeExpr(e api.Expr) api.Expr {
	e.Args = wholeList(e.Args, wholeExpr)
	return e
}

func wholeStmt(s api.Stmt) api.Stmt {
	s.A, s.B, s.Body, s.Else = wholeExpr(s.A), wholeExpr(s.B), wholeList(s.Body, wholeStmt), wholeList(s.Else, wholeStmt)
	return s
}

// wholeProc returns p with all the memory of its lists.
func wholeProc(p api.Proc) api.Proc {
	return api.Proc{Name: p.Name, Params: p.Params[:cap(p.Params)], Body: wholeList(p.Body, wholeStmt)}
}

// TestP0_4Arguments requires that nothing of an argument is changed, also not behind its lists, and that nothing behind them is used.
func TestP0_4Arguments(t *testing.T) {
	for _, p := range randomProcs(3000) {
		arg := roomyProc(p)
		checkFirst(t, arg, definedFirst(p))
		checkProc(t, arg, definedCheck(p))
		for i, e := range exprsOf(arg.Body) {
			want := exprsOf(p.Body)[i]
			reads := hasOneOf(want, reading())
			checkExpr(t, e, !reads && !hasOneOf(want, nondeterministic()), reads)
		}
		if !reflect.DeepEqual(wholeProc(arg), wholeProc(roomyProc(p))) {
			t.Fatalf("the argument was changed:\n%s", show(p))
		}
	}
	for op := range 30 {
		args := []api.Expr{{Op: api.EInt}, {Op: api.EHas}, {Op: api.ENow}}
		pure, reads := results(op)
		checkExpr(t, api.Expr{Op: op, Args: args[:0]}, pure, reads)
		checkExpr(t, api.Expr{Op: op, Args: args[:1]}, pure, reads)
		checkExpr(t, api.Expr{Op: op, Args: args[:2]}, false, true)
		checkExpr(t, api.Expr{Op: op, Args: args[2:]}, false, reads)
	}
}

// TestP0_4NothingKept requires that a call does not depend on other ones.
func TestP0_4NothingKept(t *testing.T) {
	procs := randomProcs(500)
	for range 3 {
		for _, p := range procs {
			checkFirst(t, p, definedFirst(p))
			checkProc(t, p, definedCheck(p))
			checkProc(t, proc(t, "emit n;"), api.OK)
			checkFirst(t, proc(t, "emit n;"), found{})
			checkExpr(t, expr(t, "n"), true, false)
			checkFirst(t, proc(t, "emit n + now();"), found{api.ENow, 2, true})
		}
		slices.Reverse(procs)
	}
}

// TestP0_1Together calls the functions at the same time.
func TestP0_1Together(t *testing.T) {
	procs := randomProcs(500)
	done := make(chan bool)
	for range 8 {
		go func() {
			same := true
			for _, p := range procs {
				same = same && firstOf(p) == definedFirst(p) && Check(p) == definedCheck(p)
				for _, e := range exprsOf(p.Body) {
					same = same && Reads(e) == hasOneOf(e, reading()) && Pure(e) == !hasOneOf(e, slices.Concat(reading(), nondeterministic()))
				}
			}
			done <- same
		}()
	}
	for range 8 {
		if !<-done {
			t.Error("calls at the same time have different results")
		}
	}
}

// TestP0_1Levels has procedures with as many levels of nesting as the document speaks of.
func TestP0_1Levels(t *testing.T) {
	now := api.Expr{Op: api.ENow}
	for _, body := range [][]api.Stmt{{{Op: api.SEmit, A: negated(now, mostLevels-1)}}, nested([]api.Stmt{{Op: api.SEmit, A: now}}, mostLevels-1)} {
		for _, first := range [][]api.Stmt{nil, {{Op: api.SEmit, A: now}}} {
			p := api.Proc{Name: "p", Body: slices.Concat(first, body)}
			if got, e := firstOf(p), Check(p); got != (found{}) || e != api.ErrLimit {
				t.Errorf("First = %+v, Check = %d", got, e)
			}
		}
	}
}

// TestP0_1NoEnd has procedures with lists that contain themselves, and so are nested without end.
func TestP0_1NoEnd(t *testing.T) {
	e := api.Expr{Op: api.EAdd, Args: []api.Expr{{Op: api.ENow}, {}}}
	e.Args[1] = e
	body := proc(t, "if has(s) { emit 1; } else { emit now(); }").Body
	body[0].Body, body[0].Else = body, body
	for _, p := range []api.Proc{{Name: "p", Body: body}, {Name: "p", Body: []api.Stmt{{Op: api.SEmit, A: e}}}} {
		if got, e := firstOf(p), Check(p); got != (found{}) || e != api.ErrLimit {
			t.Errorf("First = %+v, Check = %d", got, e)
		}
	}
}
