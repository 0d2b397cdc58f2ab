package cost

import (
	"clockwork/api"
	"reflect"
	"slices"
	"testing"
)

// roomy returns the elements of l, each made by f, in front of one more element, which is not a part of the result.
func roomy[E any](l []E, edge E, f func(x E) E) []E {
	var whole []E
	for _, x := range l {
		whole = append(whole, f(x))
	}
	return append(whole, edge)[:len(l)]
}

func roomyExpr(e api.Expr) api.Expr {
	e.Args = roomy(e.Args, api.Expr{Op: api.EHas, Args: []api.Expr{{Op: api.ENow}}}, roomyExpr)
	return e
}

func roomyStmt(s api.Stmt) api.Stmt {
	key := api.Expr{Op: api.EGetStr, Args: []api.Expr{{Op: api.EStr}}}
	s.A, s.B = roomyExpr(s.A), roomyExpr(s.B)
	s.Body = roomy(s.Body, api.Stmt{Op: api.SDelete, A: key}, roomyStmt)
	s.Else = roomy(s.Else, api.Stmt{Op: api.SEmit, A: key}, roomyStmt)
	return s
}

// roomyProc returns a copy of p in which each list is a part of longer memory, with something to count behind it.
func roomyProc(p api.Proc) api.Proc {
	params := roomy(p.Params, api.Param{Name: "edge", Type: api.TyBool}, func(x api.Param) api.Param { return x })
	return api.Proc{Name: p.Name, Params: params, Body: roomyStmt(api.Stmt{Body: p.Body}).Body}
}

// whole returns the list with one more element, which its memory has behind it, and with f of each element.
func whole[E any](l []E, f func(x E) E) []E {
	list := slices.Clone(l[:len(l)+1])
	for i := range l {
		list[i] = f(list[i])
	}
	return list
}

func wholeExpr(e api.Expr) api.Expr {
	e.Args = whole(e.Args, wholeExpr)
	return e
}

func wholeStmt(s api.Stmt) api.Stmt {
	s.A, s.B, s.Body, s.Else = wholeExpr(s.A), wholeExpr(s.B), whole(s.Body, wholeStmt), whole(s.Else, wholeStmt)
	return s
}

// wholeProc returns what roomyProc has returned, with what is behind its lists.
func wholeProc(p api.Proc) api.Proc {
	return api.Proc{Name: p.Name, Params: p.Params[:len(p.Params)+1], Body: whole(p.Body, wholeStmt)}
}

// TestP0_4Arguments requires that nothing of an argument is changed, also not behind its lists, and that nothing behind them counts.
func TestP0_4Arguments(t *testing.T) {
	for _, p := range randomProcs(3000) {
		arg := roomyProc(p)
		checkProc(t, arg, definedResults(p), definedCheck(p))
		if !reflect.DeepEqual(wholeProc(arg), wholeProc(roomyProc(p))) {
			t.Fatalf("the argument was changed:\n%s", show(p))
		}
	}
}

// TestP0_4NothingKept requires that a call does not depend on other ones.
func TestP0_4NothingKept(t *testing.T) {
	procs := randomProcs(500)
	for range 3 {
		for _, p := range procs {
			checkProc(t, p, definedResults(p), definedCheck(p))
			checkBody(t, "emit getint(k);", amounts{1, 1, 0, 1})
			checkProc(t, api.Proc{}, none(), api.ErrName)
		}
		slices.Reverse(procs)
	}
}

// TestP0_1Together calls the functions at the same time.
func TestP0_1Together(t *testing.T) {
	procs := randomProcs(500)
	done := make(chan bool)
	for range 8 {
		go func() {
			same := true
			for _, p := range procs {
				same = same && resultsOf(p) == definedResults(p) && Check(p) == definedCheck(p)
			}
			done <- same
		}()
	}
	for range 8 {
		if !<-done {
			t.Error("calls at the same time have different results")
		}
	}
}

// TestP0_1Levels has procedures with as many levels of nesting as the document speaks of.
func TestP0_1Levels(t *testing.T) {
	number := api.Expr{Op: api.EInt}
	for _, body := range [][]api.Stmt{{{Op: api.SEmit, A: negated(number, mostLevels-1)}}, nested([]api.Stmt{{Op: api.SEmit, A: number}}, mostLevels-1)} {
		checkProc(t, api.Proc{Name: "p", Body: body}, none(), api.ErrLimit)
	}
}

// TestP0_1NoEnd has procedures with lists that contain themselves, and so are nested without end.
func TestP0_1NoEnd(t *testing.T) {
	e := api.Expr{Op: api.EAdd, Args: []api.Expr{{Op: api.EInt}, {}}}
	e.Args[1] = e
	body := proc(t, "if has(k) { emit 1; } else { emit 2; }").Body
	body[0].Body, body[0].Else = body, body
	for _, p := range []api.Proc{{Name: "p", Body: body}, {Name: "p", Body: []api.Stmt{{Op: api.SEmit, A: e}}}} {
		if got, e := resultsOf(p), Check(p); got != none() || e != api.ErrLimit {
			t.Errorf("the results are %+v and %d", got, e)
		}
	}
}
