package parser

import (
	"clockwork/api"
	"clockwork/ast"
	"cmp"
	"slices"
	"strings"
	"testing"
	"unsafe"
)

// region is a part of the memory.
type region struct{ start, end uintptr }

func stringRegion(s string) region {
	start := uintptr(unsafe.Pointer(unsafe.StringData(s)))
	return region{start, start + uintptr(len(s))}
}

// listRegion returns the memory of a list, with its room for more elements.
func listRegion[E any](l []E) region {
	var e E
	start := uintptr(unsafe.Pointer(unsafe.SliceData(l)))
	return region{start, start + uintptr(cap(l))*unsafe.Sizeof(e)}
}

// memory is what results use.
type memory struct{ strings, lists []region }

func (m *memory) expr(e api.Expr) {
	m.strings = append(m.strings, stringRegion(e.S))
	m.lists = append(m.lists, listRegion(e.Args))
	for _, arg := range e.Args {
		m.expr(arg)
	}
}

func (m *memory) stmts(body []api.Stmt) {
	m.lists = append(m.lists, listRegion(body))
	for _, s := range body {
		m.strings = append(m.strings, stringRegion(s.Name))
		m.expr(s.A)
		m.expr(s.B)
		m.stmts(s.Body)
		m.stmts(s.Else)
	}
}

func (m *memory) procs(l []api.Proc) {
	m.lists = append(m.lists, listRegion(l))
	for _, p := range l {
		m.strings = append(m.strings, stringRegion(p.Name))
		m.lists = append(m.lists, listRegion(p.Params))
		for _, x := range p.Params {
			m.strings = append(m.strings, stringRegion(x.Name))
		}
		m.stmts(p.Body)
	}
}

// checkApart requires that no string is in the memory of the text, and that no two lists have a byte in common.
func (m *memory) checkApart(t *testing.T, src string) {
	t.Helper()
	from := stringRegion(src)
	for _, s := range m.strings {
		if s.start < from.end && from.start < s.end {
			t.Fatalf("a string of the result is in the memory of %q", src)
		}
	}
	isEmpty := func(r region) bool { return r.start == r.end }
	m.lists = slices.DeleteFunc(m.lists, isEmpty)
	slices.SortFunc(m.lists, func(x, y region) int { return cmp.Compare(x.start, y.start) })
	for i := 1; i < len(m.lists); i++ {
		if m.lists[i-1].end > m.lists[i].start {
			t.Fatalf("two lists of the result of %q share memory", src)
		}
	}
}

// TestP0_4NewMemory requires that results share no memory with the text, and that their lists share none with one another, nor with those of the same call once more.
func TestP0_4NewMemory(t *testing.T) {
	g := newGenerator()
	srcs := append(samples(), "proc p() {} proc pp(p: int, pp: str) { p = p; pp = \"p\"; p = p; }")
	for range 100 {
		_, l := g.proc("p")
		srcs = append(srcs, g.spaced(l))
	}
	count := 0
	for _, src := range srcs {
		for _, symbol := range symbols()[1:] {
			first, _, e := call(symbol, src)
			second, _, _ := call(symbol, src)
			if e == api.OK {
				var m memory
				m.procs(first)
				m.procs(second)
				count += len(m.lists)
				m.checkApart(t, src)
			}
		}
	}
	for i := range 300 {
		_, l := g.expr(1, i%13)
		src := g.spaced(l)
		first, _, _ := Expr(src)
		second, _, _ := Expr(src)
		var m memory
		m.expr(first)
		m.expr(second)
		count += len(m.strings)
		m.checkApart(t, src)
	}
	if count < 1000 {
		t.Errorf("the results have %d parts", count)
	}
}

// TestP0_4NothingKept requires that a call does not depend on what became of the results of others.
func TestP0_4NothingKept(t *testing.T) {
	src := samples()[1]
	want, _, _ := Program(src)
	changed, _, _ := Program(src)
	for i := range changed {
		changed[i].Name = "changed"
		changed[i].Params = append(changed[i].Params, param("changed", 1))
		for j := range changed[i].Body {
			changed[i].Body[j] = abort(7)
		}
	}
	Program("proc p( {")
	Expr(strings.Repeat("(", 50))
	Proc("proc p() { if a { if a { if a {")
	got, _, _ := Program(src)
	if len(got) != 3 || !slices.EqualFunc(got, want, ast.Equal) {
		t.Errorf("the program becomes %+v, want %+v", got, want)
	}
}

// TestP0_1Together calls the functions at the same time.
func TestP0_1Together(t *testing.T) {
	done := make(chan bool)
	for _, src := range samples() {
		for range 4 {
			go func() {
				same := true
				want, line, e := call(symbolProgram, src)
				for range 100 {
					got, gotLine, gotError := call(symbolProgram, src)
					same = same && gotLine == line && gotError == e && slices.EqualFunc(got, want, ast.Equal)
				}
				done <- same
			}()
		}
	}
	for range 4 * len(samples()) {
		if !<-done {
			t.Error("calls at the same time have different results")
		}
	}
}

// TestP0_1Levels has as many levels of nesting as a text has room for.
func TestP0_1Levels(t *testing.T) {
	for _, x := range []struct {
		symbol, before, repeated string
		line                     int
	}{
		{symbolExpr, "", "(", 1}, {symbolExpr, "", "-", 1}, {symbolExpr, "", "not\n", 25}, {symbolExpr, "", "len(\n", 25},
		{symbolProc, "proc p() {", "if x {\n", 13}, {symbolProc, "proc p() {", "if x {} else {\n", 13}, {symbolProgram, "proc p() { emit", "-(\n", 13}, {symbolProgram, "proc p() {", "for i = a to b max 1 {\n", 13},
	} {
		n := (mostSource - len(x.before)) / len(x.repeated)
		checkError(t, x.symbol, x.before+strings.Repeat(x.repeated, n), x.line, api.ErrLimit)
		checkError(t, x.symbol, x.before+strings.Repeat(x.repeated, 4*n), 0, api.ErrLimit)
	}
}
