package ast

import (
	"clockwork/api"
	"fmt"
	"runtime"
	"slices"
	"testing"
	"unsafe"
)

// memory is a part of the memory, from its first byte to the one behind its last one, and what is in it.
type memory struct {
	start, end uintptr
	what       string
}

// listMemory returns the memory of the list, with what is behind its last element.
func listMemory[E any](l []E) memory {
	start := uintptr(unsafe.Pointer(unsafe.SliceData(l)))
	var e E
	return memory{start, start + uintptr(cap(l))*unsafe.Sizeof(e), fmt.Sprintf("the list %+v", l)}
}

func textMemory(s string) memory {
	start := uintptr(unsafe.Pointer(unsafe.StringData(s)))
	return memory{start, start + uintptr(len(s)), fmt.Sprintf("the string %q", s)}
}

// exprMemory returns all the memory of e.
func exprMemory(e api.Expr) []memory {
	l := []memory{textMemory(e.S), listMemory(e.Args)}
	for _, arg := range e.Args {
		l = append(l, exprMemory(arg)...)
	}
	return l
}

func stmtsMemory(body []api.Stmt) []memory {
	l := []memory{listMemory(body)}
	for _, s := range body {
		l = append(l, textMemory(s.Name))
		l = slices.Concat(l, exprMemory(s.A), exprMemory(s.B), stmtsMemory(s.Body), stmtsMemory(s.Else))
	}
	return l
}

func procMemory(p api.Proc) []memory {
	l := []memory{textMemory(p.Name), listMemory(p.Params)}
	for _, x := range p.Params {
		l = append(l, textMemory(x.Name))
	}
	return append(l, stmtsMemory(p.Body)...)
}

// checkApart requires that no two of the parts have a byte in common, but for those that are both parts of the arguments.
func checkApart(t *testing.T, name string, result, arguments []memory) {
	t.Helper()
	count := 0
	for i, x := range result {
		if x.start == x.end {
			continue
		}
		count++
		for _, y := range slices.Concat(result[:i], arguments) {
			if x.start < y.end && y.start < x.end {
				t.Errorf("%s: %s of the result is in the memory of %s", name, x.what, y.what)
			}
		}
	}
	if count == 0 {
		t.Errorf("%s returns nothing", name)
	}
}

// resultMemory returns all the memory of the results of Exprs and Names.
func resultMemory(exprs []api.Expr, names []string) (ofExprs, ofNames []memory) {
	ofExprs, ofNames = []memory{listMemory(exprs)}, []memory{listMemory(names)}
	for _, e := range exprs {
		ofExprs = append(ofExprs, exprMemory(e)...)
	}
	for _, s := range names {
		ofNames = append(ofNames, textMemory(s))
	}
	return ofExprs, ofNames
}

func TestP0_4NewMemory(t *testing.T) {
	invalid := proc(append(aborts(400), put(apply(99, variable("X"), text("\n")), apply(api.ENeg, variable("first"))))...)
	invalid.Params = []api.Param{param("X", 7), param("", 0), param("Y", 1)}
	for _, p := range append(validProcs()[:9], invalid) {
		p = roomyProc(p)
		arguments := procMemory(p)
		exprs, names := Exprs(p), Names(p)
		laterExprs, laterNames := Exprs(p), Names(p)
		ofExprs, ofNames := resultMemory(exprs, names)
		ofLaterExprs, ofLaterNames := resultMemory(laterExprs, laterNames)
		if len(exprs) > 0 {
			checkApart(t, "Exprs", slices.Concat(ofExprs, ofLaterExprs), arguments)
		}
		if len(names) > 0 {
			checkApart(t, "Names", slices.Concat(ofNames, ofLaterNames), arguments)
		}
		for _, from := range names {
			to := string([]byte("fresh"))
			if q, e := Rename(p, from, to); e == api.OK {
				checkApart(t, "Rename", procMemory(q), slices.Concat(arguments, []memory{textMemory(from), textMemory(to)}))
				runtime.KeepAlive(q)
			}
			runtime.KeepAlive(to)
		}
		// Memory that is given back could be that of the next result.
		runtime.KeepAlive([]any{p, exprs, names, laterExprs, laterNames})
	}
}

// TestP0_4ResultsAreKept requires that changes of a result change neither the arguments nor later results.
func TestP0_4ResultsAreKept(t *testing.T) {
	p := counter()
	exprs, names := show(Exprs(p)), show(Names(p))
	renamed, _ := Rename(p, "s", "fresh")
	want := show(renamed)
	for range 2 {
		l, m := Exprs(p), Names(p)
		q, _ := Rename(p, "s", "fresh")
		if show(l) != exprs || show(m) != names || show(q) != want {
			t.Errorf("later results are %+v, %q, %+v", l, m, q)
		}
		for i := range l {
			clear(l[i].Args)
		}
		clear(l[:cap(l)])
		clear(m[:cap(m)])
		for _, x := range walkOf(q) {
			if x.stmt != nil {
				*x.stmt = api.Stmt{}
			} else {
				*x.expr = api.Expr{}
			}
		}
		clear(q.Params)
	}
	if show(p) != show(counter()) {
		t.Errorf("the argument was changed to %+v", p)
	}
	clear(p.Params)
	clear(p.Body[1].Body)
	clear(p.Body)
	if show(renamed) != want {
		t.Errorf("the result was changed to %+v", renamed)
	}
}

// TestP0_1Levels has as many levels of nesting as the document speaks of.
func TestP0_1Levels(t *testing.T) {
	e := wrapped(variable("X"), mostLevels-1, wraps()[0])
	if got := ValidExpr(e); got != api.ErrLimit {
		t.Errorf("ValidExpr = %d", got)
	}
	p := api.Proc{Name: "p", Params: params(2), Body: stmts(emit(e))}
	l := Exprs(p)
	if e := Validate(p); e != api.ErrLimit || Nodes(p) != 401 || Depth(p) != 1 || len(l) != 1 || len(Names(p)) != 2 || !Equal(p, p) {
		t.Errorf("Validate = %d, Nodes = %d, Depth = %d, %d expressions, names %q", e, Nodes(p), Depth(p), len(l), Names(p))
	}
	levels := 1
	for x := l[0]; len(x.Args) > 0; x = x.Args[0] {
		levels++
	}
	if levels != mostLevels {
		t.Errorf("the expression has %d levels", levels)
	}
	if _, e := Rename(p, "a", "c"); e != api.ErrArg {
		t.Errorf("Rename = %d", e)
	}
	for _, nest := range nests() {
		p, q := proc(nested(abort(1), mostLevels-1, nest)), proc(nested(abort(2), mostLevels-1, nest))
		if e := Validate(p); e != api.ErrLimit || Nodes(p) != 401 || Equal(p, q) || !Equal(p, p) {
			t.Errorf("Validate = %d, Nodes = %d, Equal = %t, %t", e, Nodes(p), Equal(p, q), Equal(p, p))
		}
		if d := Depth(p); d < 100 || d > 201 {
			t.Errorf("Depth = %d", d)
		}
		if n := len(Exprs(p)); n < 100 || n > 401 {
			t.Errorf("%d expressions", n)
		}
		if _, e := Rename(p, "a", "c"); e != api.ErrArg {
			t.Errorf("Rename = %d", e)
		}
	}
}

// TestP0_1NoEnd has lists that contain themselves, and so are nested without end. What is checked, and what is counted up to a limit, needs no end.
func TestP0_1NoEnd(t *testing.T) {
	e := apply(api.ENeg, api.Expr{})
	e.Args[0] = e
	if got := ValidExpr(e); got != api.ErrLimit {
		t.Errorf("ValidExpr = %d", got)
	}
	p := withParams(params(2)...)
	p.Body = stmts(emit(e), let("x", e))
	if e := Validate(p); e != api.ErrLimit || Nodes(p) != 401 || Depth(p) != 1 || len(Names(p)) != 2 {
		t.Errorf("Validate = %d, Nodes = %d, Depth = %d, names %q", e, Nodes(p), Depth(p), Names(p))
	}
	p.Body = stmts(let("x", number(1)), when(number(1), nil, nil))
	p.Body[1].Body, p.Body[1].Else = p.Body, p.Body
	if e := Validate(p); e != api.ErrLimit || Nodes(p) != 401 || Depth(p) != 101 || len(Names(p)) != 103 || len(Exprs(p)) != 200 {
		t.Errorf("Validate = %d, Nodes = %d, Depth = %d, %d names, %d expressions", e, Nodes(p), Depth(p), len(Names(p)), len(Exprs(p)))
	}
	if _, e := Rename(p, "a", "c"); e != api.ErrArg {
		t.Errorf("Rename = %d", e)
	}
}
