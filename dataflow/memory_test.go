package dataflow

import (
	"clockwork/api"
	"reflect"
	"runtime"
	"slices"
	"strings"
	"testing"
	"unsafe"
)

// roomy returns the elements of l, each made by f, in front of one more element, which is not a part of the result.
func roomy[E any](l []E, edge E, f func(x E) E) []E {
	var whole []E
	for _, x := range l {
		whole = append(whole, f(x))
	}
	return append(whole, edge)[:len(l)]
}

// edgeExpr reads the state at a tainted key.
func edgeExpr() api.Expr {
	key := api.Expr{Op: api.EGetStr, Args: []api.Expr{{Op: api.EStr}}}
	return api.Expr{Op: api.EHas, Args: []api.Expr{key}}
}

func roomyExpr(e api.Expr) api.Expr {
	e.S = strings.Clone(e.S)
	e.Args = roomy(e.Args, edgeExpr(), roomyExpr)
	return e
}

func roomyStmt(s api.Stmt) api.Stmt {
	s.Name, s.A, s.B = strings.Clone(s.Name), roomyExpr(s.A), roomyExpr(s.B)
	s.Body = roomy(s.Body, api.Stmt{Op: api.SIf, A: edgeExpr()}, roomyStmt)
	s.Else = roomy(s.Else, api.Stmt{Op: api.SSet, Name: "n", A: edgeExpr()}, roomyStmt)
	return s
}

// roomyProc returns a copy of p in which each list is a part of longer memory, with something tainted behind it.
func roomyProc(p api.Proc) api.Proc {
	params := roomy(p.Params, api.Param{Name: "edge", Type: api.TyBool}, func(x api.Param) api.Param { return api.Param{Name: strings.Clone(x.Name), Type: x.Type} })
	return api.Proc{Name: p.Name, Params: params, Body: roomyStmt(api.Stmt{Body: p.Body}).Body}
}

// whole returns the list with one more element, which its memory has behind it, and with f of each element.
func whole[E any](l []E, f func(x E) E) []E {
	list := slices.Clone(l[:len(l)+1])
	for i := range l {
		list[i] = f(list[i])
	}
	return list
}

func wholeExpr(e api.Expr) api.Expr {
	e.Args = whole(e.Args, wholeExpr)
	return e
}

func wholeStmt(s api.Stmt) api.Stmt {
	s.A, s.B, s.Body, s.Else = wholeExpr(s.A), wholeExpr(s.B), whole(s.Body, wholeStmt), whole(s.Else, wholeStmt)
	return s
}

// wholeProc returns what roomyProc has returned, with what is behind its lists.
func wholeProc(p api.Proc) api.Proc {
	return api.Proc{Name: p.Name, Params: p.Params[:len(p.Params)+1], Body: whole(p.Body, wholeStmt)}
}

// TestP0_4Arguments requires that nothing of an argument is changed, also not behind its lists, and that nothing behind them counts.
func TestP0_4Arguments(t *testing.T) {
	for _, p := range randomProcs(3000) {
		arg := roomyProc(p)
		checkProc(t, arg, definedResults(p))
		if !reflect.DeepEqual(wholeProc(arg), wholeProc(roomyProc(p))) {
			t.Fatalf("the argument was changed:\n%s", show(p))
		}
	}
}

// memory is a part of the memory, from its first byte to the one behind its last one.
type memory struct{ start, end uintptr }

func textMemory(s string) memory {
	start := uintptr(unsafe.Pointer(unsafe.StringData(s)))
	return memory{start, start + uintptr(len(s))}
}

// namesMemory returns the memory of the list, with what is behind its last element, and that of its names.
func namesMemory(list []string) []memory {
	start := uintptr(unsafe.Pointer(unsafe.SliceData(list)))
	l := []memory{{start, start + uintptr(cap(list))*unsafe.Sizeof("")}}
	for _, name := range list {
		l = append(l, textMemory(name))
	}
	return l
}

// stmtsMemory returns the memory of the names in the statements.
func stmtsMemory(body []api.Stmt) []memory {
	var l []memory
	for _, s := range body {
		l = append(l, textMemory(s.Name))
		for _, e := range nodesOf(s.A, s.B) {
			l = append(l, textMemory(e.S))
		}
		l = append(l, stmtsMemory(s.Body)...)
		l = append(l, stmtsMemory(s.Else)...)
	}
	return l
}

// TestP0_4NewMemory requires that results share no memory with the argument, with one another, and within themselves.
func TestP0_4NewMemory(t *testing.T) {
	count := 0
	for _, p := range randomProcs(2000) {
		p = roomyProc(p)
		first, second := Tainted(p), Tainted(p)
		others := stmtsMemory(p.Body)
		for _, x := range p.Params {
			others = append(others, textMemory(x.Name))
		}
		for _, part := range slices.Concat(namesMemory(first), namesMemory(second)) {
			for _, other := range others {
				if part.start < other.end && other.start < part.end {
					t.Fatalf("results of Tainted share memory with others of\n%s", show(p))
				}
			}
			if part.start < part.end {
				count++
				others = append(others, part)
			}
		}
		// Memory that is given back could be that of the next result.
		runtime.KeepAlive([]any{p, first, second})
	}
	if count < 3000 {
		t.Errorf("the results have %d parts", count)
	}
}

// TestP0_4NothingKept requires that a call does not depend on other ones, nor on what became of their results.
func TestP0_4NothingKept(t *testing.T) {
	procs := randomProcs(500)
	for range 3 {
		for _, p := range procs {
			checkProc(t, p, definedResults(p))
			l := Tainted(p)
			for i := range l[:cap(l)] {
				l[:cap(l)][i] = "changed"
			}
			checkBody(t, `let v1 = 1; let x = v1; n = getint("k");`, "n", false, false)
			checkProc(t, api.Proc{}, results{})
		}
		slices.Reverse(procs)
	}
}

// TestP0_1Together calls the functions at the same time.
func TestP0_1Together(t *testing.T) {
	procs := randomProcs(300)
	done := make(chan bool)
	for range 8 {
		go func() {
			same := true
			for _, p := range procs {
				same = same && resultsOf(p) == definedResults(p)
			}
			done <- same
		}()
	}
	for range 8 {
		if !<-done {
			t.Error("calls at the same time have different results")
		}
	}
}

// TestP0_1Levels has procedures with as many levels of nesting as the document speaks of.
func TestP0_1Levels(t *testing.T) {
	let := []api.Stmt{{Op: api.SLet, Name: "x", A: edgeExpr()}}
	number := api.Expr{Op: api.EInt}
	for _, body := range [][]api.Stmt{{{Op: api.SEmit, A: negated(number, mostLevels-1)}}, nested(let, mostLevels-1)} {
		checkProc(t, api.Proc{Name: "p", Body: slices.Concat(let, body)}, results{})
	}
}

// TestP0_1NoEnd has procedures with lists that contain themselves, and so are nested without end.
func TestP0_1NoEnd(t *testing.T) {
	e := api.Expr{Op: api.EAdd, Args: []api.Expr{{Op: api.EInt}, {}}}
	e.Args[1] = e
	body := proc(t, `if has(s) { n = getint("k"); } else { put getstr(s) = 2; }`).Body
	body[0].Body, body[0].Else = body, body
	for _, p := range []api.Proc{{Name: "p", Body: body}, {Name: "p", Body: []api.Stmt{{Op: api.SEmit, A: e}}}} {
		if got := resultsOf(p); got != (results{}) {
			t.Errorf("the results are %+v", got)
		}
	}
}

// TestP0_1Sharing has lists that stand in many places of a procedure.
func TestP0_1Sharing(t *testing.T) {
	e := api.Expr{Op: api.EVar, S: "n"}
	for range 5 {
		e = api.Expr{Op: api.EAdd, Args: []api.Expr{e, e}}
	}
	body := []api.Stmt{{Op: api.SSet, Name: "n", A: e}}
	for range 2 {
		body = []api.Stmt{{Op: api.SIf, A: api.Expr{Op: api.EHas, Args: []api.Expr{{Op: api.EStr}}}, Body: body, Else: body}}
	}
	p := api.Proc{Name: "p", Params: []api.Param{{Name: "n", Type: api.TyInt}}, Body: body}
	checkProc(t, p, results{"n", false, true, true})
}
