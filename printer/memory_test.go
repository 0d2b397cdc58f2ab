package printer

import (
	"clockwork/api"
	"runtime"
	"strings"
	"testing"
	"unsafe"
)

// textsOf lists the strings of e.
func textsOf(e api.Expr) []string {
	l := []string{e.S}
	for _, arg := range e.Args {
		l = append(l, textsOf(arg)...)
	}
	return l
}

func stmtTexts(body []api.Stmt) []string {
	var l []string
	for _, s := range body {
		l = append(l, s.Name)
		l = append(l, append(textsOf(s.A), textsOf(s.B)...)...)
		l = append(l, append(stmtTexts(s.Body), stmtTexts(s.Else)...)...)
	}
	return l
}

func procTexts(p api.Proc) []string {
	l := []string{p.Name}
	for _, x := range p.Params {
		l = append(l, x.Name)
	}
	return append(l, stmtTexts(p.Body)...)
}

// bounds returns the first byte of s in the memory, and the one behind its last one.
func bounds(s string) (start, end uintptr) {
	start = uintptr(unsafe.Pointer(unsafe.StringData(s)))
	return start, start + uintptr(len(s))
}

// checkApart requires that the result is not empty and has no byte in common with the others.
func checkApart(t *testing.T, result string, others []string) {
	t.Helper()
	start, end := bounds(result)
	if start == end {
		t.Error("there is no result")
	}
	for _, s := range others {
		if from, to := bounds(s); s != "" && start < to && from < end {
			t.Errorf("%q is in the memory of %q", result, s)
		}
	}
	runtime.KeepAlive(others)
}

func TestP0_4NewMemory(t *testing.T) {
	long := strings.Repeat("k", mostName)
	exprs := []api.Expr{variable("x"), variable(long), text(long), text(""), text(`"`), number(7), apply(api.ENow), apply(api.ENeg, variable(long)), apply(api.EHas, text(long))}
	for _, x := range samples() {
		exprs = append(exprs, x.e)
	}
	for _, e := range exprs {
		e = roomyExpr(e)
		checkApart(t, Expr(e), textsOf(e))
	}
	for _, p := range append([]api.Proc{add(), counter(), {Name: "none"}}, randomProcs(t, 50)...) {
		p = roomyProc(p)
		checkApart(t, Proc(p), procTexts(p))
		checkApart(t, Program([]api.Proc{p, p}), procTexts(p))
	}
}

// TestP0_4Edges puts what is wrong behind the elements of lists, where nothing is used.
func TestP0_4Edges(t *testing.T) {
	l := []api.Proc{counter(), add(), {}, {Name: "P"}}
	l[0].Params = append(l[0].Params, api.Param{})[:3]
	l[0].Body = append(l[0].Body, api.Stmt{})[:5]
	l[0].Body[1].Else = aborts(1)[:0]
	l[0].Body[0].A.Args = append(l[0].Body[0].A.Args, number(-1))[:2]
	if s := Program(l[:2]); s != counterText+"\n"+addText {
		t.Errorf("Program = %q", s)
	}
	if s := Program(l[:3]); s != "" {
		t.Errorf("Program = %q", s)
	}
}

// TestP0_1Levels has as many levels of nesting as the document speaks of.
func TestP0_1Levels(t *testing.T) {
	for _, wrap := range wraps() {
		e := wrapped(variable("x"), mostLevels-1, wrap)
		if s := Expr(e); s != "" {
			t.Errorf("Expr has %d bytes", len(s))
		}
		if s := Proc(proc(emit(e))); s != "" {
			t.Errorf("Proc has %d bytes", len(s))
		}
	}
	for _, x := range nests() {
		s := abort(1)
		for range mostLevels - 1 {
			s = x.nest(s)
		}
		if got := Program([]api.Proc{add(), proc(s)}); got != "" {
			t.Errorf("Program has %d bytes", len(got))
		}
	}
}

// TestP0_1NoEnd has lists that contain themselves, and so are nested without end.
func TestP0_1NoEnd(t *testing.T) {
	e := apply(api.EAdd, api.Expr{}, api.Expr{})
	e.Args[0], e.Args[1] = e, e
	if s := Expr(e); s != "" {
		t.Errorf("Expr has %d bytes", len(s))
	}
	if s := Proc(proc(emit(e))); s != "" {
		t.Errorf("Proc has %d bytes", len(s))
	}
	p := proc(when(a, nil, nil), loop("i", a, b, 1))
	p.Body[0].Body, p.Body[0].Else, p.Body[1].Body = p.Body, p.Body, p.Body
	if s := Program([]api.Proc{p}); s != "" {
		t.Errorf("Program has %d bytes", len(s))
	}
}
