package ast

import (
	"clockwork/api"
	"slices"
	"strings"
	"testing"
)

// counter returns proc p(n: int, m: str, b: bool) { let s = n + len(m); for i = s to n + i max 3 { s = s + i; if s > n { put m = s; } else { delete m ++ text(s); } } free = other; emit s; abort 7; }.
func counter() api.Proc {
	v := variable
	inner := when(apply(api.EGt, v("s"), v("n")), stmts(put(v("m"), v("s"))), stmts(remove(apply(api.ECat, v("m"), apply(api.EText, v("s"))))))
	return api.Proc{Name: "p", Params: []api.Param{param("n", api.TyInt), param("m", api.TyStr), param("b", api.TyBool)}, Body: stmts(
		let("s", apply(api.EAdd, v("n"), apply(api.ELen, v("m")))),
		loop("i", v("s"), apply(api.EAdd, v("n"), v("i")), 3, set("s", apply(api.EAdd, v("s"), v("i"))), inner),
		set("free", v("other")), emit(v("s")), abort(7),
	)}
}

// exprEdits returns functions each of which changes one field of e, at any depth.
func exprEdits(e *api.Expr) []func() {
	l := []func(){
		func() { e.Op++ }, func() { e.N++ }, func() { e.S += "x" }, func() { e.S = strings.ToUpper(e.S) + "Z" },
		func() { e.Args = append(slices.Clone(e.Args), api.Expr{}) }, func() { e.Args = append([]api.Expr{number(1)}, e.Args...) },
	}
	if len(e.Args) > 0 {
		l = append(l, func() { e.Args = e.Args[1:] }, func() { e.Args = e.Args[:len(e.Args)-1] }, func() { e.Args = nil })
	}
	for i := range e.Args {
		l = append(l, exprEdits(&e.Args[i])...)
	}
	return l
}

// listEdits does the same for statements, and changes their number.
func listEdits(l *[]api.Stmt) []func() {
	edits := []func(){
		func() { *l = append(slices.Clone(*l), api.Stmt{}) }, func() { *l = append(stmts(abort(1)), *l...) },
	}
	if len(*l) > 0 {
		edits = append(edits, func() { *l = (*l)[1:] }, func() { *l = (*l)[:len(*l)-1] })
	}
	for i := range *l {
		s := &(*l)[i]
		edits = append(edits, func() { s.Op++ }, func() { s.Name += "x" }, func() { s.Max++ }, func() { s.Max = -1 })
		edits = append(edits, slices.Concat(exprEdits(&s.A), exprEdits(&s.B), listEdits(&s.Body), listEdits(&s.Else))...)
	}
	return edits
}

// procEdits does the same for a procedure.
func procEdits(p *api.Proc) []func() {
	edits := []func(){
		func() { p.Name += "x" }, func() { p.Name = "other" },
		func() { p.Params = append(slices.Clone(p.Params), api.Param{}) }, func() { p.Params = append([]api.Param{{}}, p.Params...) },
	}
	if len(p.Params) > 0 {
		edits = append(edits, func() { p.Params = p.Params[1:] }, func() { p.Params = p.Params[:len(p.Params)-1] })
	}
	for i := range p.Params {
		x := &p.Params[i]
		edits = append(edits, func() { x.Name += "x" }, func() { x.Type++ })
	}
	return append(edits, listEdits(&p.Body)...)
}

// strangeProcs are procedures that are not valid.
func strangeProcs() []api.Proc {
	return []api.Proc{
		{}, {Body: make([]api.Stmt, 2)}, {Params: make([]api.Param, 2)}, {Name: "\xff", Params: []api.Param{param("\x00", -1)}},
		proc(api.Stmt{Op: -1, Name: "\n", Max: -7, A: api.Expr{N: -1}, B: api.Expr{S: "\xff", Args: make([]api.Expr, 3)}, Body: make([]api.Stmt, 1), Else: stmts(api.Stmt{Else: make([]api.Stmt, 1)})}),
		proc(aborts(500)...), proc(append(aborts(450), when(apply(99, number(-1)), stmts(emit(variable(""))), stmts(let("X", text("\n")))))...),
		proc(nested(emit(number(1)), 30, nests()[0])), proc(emit(wrapped(number(1), 40, wraps()[0]))), proc(nested(emit(wrapped(number(1), 40, wraps()[1])), 30, nests()[2])),
	}
}

// validProcs are valid procedures, of up to MaxNodes nodes.
func validProcs() []api.Proc {
	l := []api.Proc{counter(), {Name: "p"}, withParams(params(6)...), proc(append(simpleStmts(), fullStmts()...)...), proc(aborts(400)...)}
	for _, nest := range nests() {
		l = append(l, api.Proc{Name: "q", Params: params(2), Body: stmts(nested(put(wrapped(variable("a"), 11, wraps()[0]), wrapped(variable("b"), 11, wraps()[5])), 11, nest))})
	}
	for _, p := range randomProcs(200) {
		if procErrorOf(p) == api.OK {
			l = append(l, p)
		}
	}
	return l
}

// TestP8_5Equal changes every field at all depths, alone (of procedures with very many fields, only some of them).
func TestP8_5Equal(t *testing.T) {
	for _, p := range append(strangeProcs(), validProcs()[:9]...) {
		checkEqual(t, p, p, true)
		number := len(procEdits(&p))
		step := 1
		if number > 1000 {
			step = number / 100
		}
		for i := 0; i < number; i += step {
			q := roomyProc(p)
			procEdits(&q)[i]()
			if isSame(p, q) {
				t.Fatalf("the edit %d does not change %+v", i, p)
			}
			if Equal(p, q) || Equal(q, p) || !Equal(q, q) {
				t.Fatalf("Equal(%+v, %+v) = true", p, q)
			}
		}
	}
}

// TestP8_5All compares all pairs of some procedures.
func TestP8_5All(t *testing.T) {
	all := append(strangeProcs(), validProcs()[:60]...)
	all = append(all, all...)
	var texts []string
	for i, p := range all {
		texts = append(texts, show(p))
		for j, q := range all[:i+1] {
			if got := Equal(p, q); got != (texts[i] == texts[j]) {
				t.Fatalf("Equal(%+v, %+v) = %t", p, q, got)
			}
		}
	}
}

func TestP8_5Fields(t *testing.T) {
	one, two := number(1), number(2)
	type bodies = []api.Stmt
	for _, c := range []struct {
		a, b api.Proc
		want bool
	}{
		{api.Proc{}, api.Proc{Params: []api.Param{}, Body: bodies{}}, true}, {proc(abort(1)), proc(api.Stmt{Op: api.SAbort, Max: 1, A: api.Expr{Args: []api.Expr{}}, B: api.Expr{Args: []api.Expr{}}, Body: bodies{}, Else: bodies{}}), true},
		{proc(emit(apply(api.ENow))), proc(emit(api.Expr{Op: api.ENow, Args: []api.Expr{}})), true}, {proc(when(one, nil, bodies{})), proc(when(one, bodies{}, nil)), true},
		{proc(nested(emit(one), 20, nests()[1])), proc(nested(emit(one), 20, nests()[1])), true}, {proc(nested(emit(one), 20, nests()[1])), proc(nested(emit(two), 20, nests()[1])), false},
		{proc(put(one, two)), proc(put(two, one)), false}, {proc(when(one, aborts(1), nil)), proc(when(one, nil, aborts(1))), false}, {proc(when(one, aborts(1), aborts(2))), proc(when(one, aborts(2), aborts(1))), false},
		{proc(emit(api.Expr{})), proc(put(api.Expr{}, api.Expr{})), false}, {proc(emit(one)), proc(remove(one)), false}, {proc(let("x", one)), proc(set("x", one)), false},
		{proc(api.Stmt{A: one}), proc(api.Stmt{B: one}), false}, {proc(abort(1), abort(2)), proc(abort(2), abort(1)), false}, {proc(abort(1)), proc(abort(1), abort(1)), false}, {proc(), proc(api.Stmt{}), false},
		{withParams(param("a", 1), param("b", 2)), withParams(param("b", 2), param("a", 1)), false}, {withParams(param("a", 1)), withParams(param("a", 2)), false}, {withParams(), withParams(api.Param{}), false},
		{proc(emit(number(1))), proc(emit(text("1"))), false}, {proc(emit(text("x"))), proc(emit(variable("x"))), false}, {proc(emit(api.Expr{N: 1})), proc(emit(api.Expr{Op: 1})), false}, {proc(emit(apply(0, one))), proc(emit(apply(0, one, one))), false},
		// What is different may stand behind the end of the walk.
		{proc(append(aborts(500), abort(1))...), proc(append(aborts(500), abort(2))...), false}, {proc(append(aborts(500), emit(one))...), proc(append(aborts(500), emit(two))...), false}, {proc(aborts(500)...), proc(aborts(501)...), false}, {proc(aborts(500)...), proc(aborts(500)...), true},
	} {
		checkEqual(t, c.a, c.b, c.want)
	}
}

// TestP8_6Rename renames each name of one procedure.
func TestP8_6Rename(t *testing.T) {
	v := variable
	p := counter()
	renamed := func(from string, edit func(q *api.Proc)) {
		t.Helper()
		q := counter()
		edit(&q)
		checkRename(t, p, from, "new_1", q, api.OK)
	}
	renamed("n", func(q *api.Proc) {
		q.Params[0].Name = "new_1"
		q.Body[0].A.Args[0].S, q.Body[1].B.Args[0].S = "new_1", "new_1"
		q.Body[1].Body[1].A.Args[1].S = "new_1"
	})
	renamed("m", func(q *api.Proc) {
		q.Params[1].Name = "new_1"
		q.Body[0].A.Args[1].Args[0].S = "new_1"
		q.Body[1].Body[1].Body[0].A = v("new_1")
		q.Body[1].Body[1].Else[0].A.Args[0].S = "new_1"
	})
	renamed("b", func(q *api.Proc) { q.Params[2].Name = "new_1" })
	renamed("s", func(q *api.Proc) {
		inner := &q.Body[1].Body[1]
		q.Body[0].Name, q.Body[1].Body[0].Name = "new_1", "new_1"
		q.Body[1].A, q.Body[1].Body[0].A.Args[0] = v("new_1"), v("new_1")
		inner.A.Args[0], inner.Body[0].B, inner.Else[0].A.Args[1].Args[0] = v("new_1"), v("new_1"), v("new_1")
		q.Body[3].A = v("new_1")
	})
	renamed("i", func(q *api.Proc) {
		q.Body[1].Name, q.Body[1].B.Args[1].S, q.Body[1].Body[0].A.Args[1].S = "new_1", "new_1", "new_1"
	})
}

func TestP8_6Examples(t *testing.T) {
	p := api.Proc{Name: "p", Params: []api.Param{param("n", api.TyInt)}, Body: stmts(emit(variable("n")))}
	checkRename(t, p, "n", "m", api.Proc{Name: "p", Params: []api.Param{param("m", api.TyInt)}, Body: stmts(emit(variable("m")))}, api.OK)
	checkRename(t, p, "n", "if", api.Proc{}, api.ErrName)
	checkRename(t, p, "n", "p", api.Proc{Name: "p", Params: []api.Param{param("p", api.TyInt)}, Body: stmts(emit(variable("p")))}, api.OK)
	// Strings, keys and the name of the procedure are no names of variables.
	p = api.Proc{Name: "x", Params: []api.Param{param("x", api.TyStr)}, Body: stmts(put(text("x"), variable("x")), let("y", text("y")), emit(text("new")))}
	checkRename(t, p, "x", "new", api.Proc{Name: "x", Params: []api.Param{param("new", api.TyStr)}, Body: stmts(put(text("x"), variable("new")), let("y", text("y")), emit(text("new")))}, api.OK)
	checkRename(t, p, "y", "new", api.Proc{Name: "x", Params: []api.Param{param("x", api.TyStr)}, Body: stmts(put(text("x"), variable("x")), let("new", text("y")), emit(text("new")))}, api.OK)
	// All declarations of a name are renamed.
	p = api.Proc{Name: "p", Params: []api.Param{param("x", 1), param("y", 1)}, Body: stmts(let("x", number(1)), let("x", variable("x")), loop("x", variable("x"), variable("y"), 1, set("x", variable("x"))), let("xx", number(1)))}
	checkRename(t, p, "x", "z", api.Proc{Name: "p", Params: []api.Param{param("z", 1), param("y", 1)}, Body: stmts(let("z", number(1)), let("z", variable("z")), loop("z", variable("z"), variable("y"), 1, set("z", variable("z"))), let("xx", number(1)))}, api.OK)
}

// TestP8_6Where renames one variable that stands at one place.
func TestP8_6Where(t *testing.T) {
	for _, wrap := range append(wraps(), func(e api.Expr) api.Expr { return e }) {
		for _, levels := range []int{0, 1, 2, 11} {
			place := func(name string) api.Proc {
				e := wrapped(variable(name), levels, wrap)
				l := stmts(set("f", e), put(e, number(1)), put(number(1), e), remove(e), when(e, nil, nil), loop("g", e, number(1), 1), loop("g", number(1), e, 1), emit(e), let("g", e))
				return api.Proc{Name: "p", Params: []api.Param{param(name, 1), param("x", 2)}, Body: l[levels%len(l):]}
			}
			checkRename(t, place("v"), "v", "w", place("w"), api.OK)
		}
	}
	for _, nest := range nests() {
		for _, levels := range []int{0, 1, 2, 10, 11} {
			for _, s := range []func(name string) api.Stmt{
				func(name string) api.Stmt { return let(name, number(1)) }, func(name string) api.Stmt { return set(name, number(1)) },
				func(name string) api.Stmt { return loop(name, number(1), number(2), 1) }, func(name string) api.Stmt { return put(variable(name), variable(name)) },
			} {
				place := func(name string) api.Proc { return proc(let(name, number(1)), nested(s(name), levels, nest)) }
				checkRename(t, place("v"), "v", "w", place("w"), api.OK)
			}
		}
	}
}

func TestP8_6Errors(t *testing.T) {
	p, long := counter(), strings.Repeat("k", mostName)
	for _, c := range []struct {
		from, to string
		want     api.Errno
	}{
		{"n", "", api.ErrName}, {"n", "N", api.ErrName}, {"n", "_n", api.ErrName}, {"n", "1", api.ErrName}, {"n", "n n", api.ErrName}, {"n", "proc", api.ErrName}, {"n", long + "k", api.ErrName}, {"n", "é", api.ErrName},
		{"x", "y", api.ErrNotFound}, {"", "y", api.ErrNotFound}, {"p", "y", api.ErrNotFound}, {"N", "y", api.ErrNotFound}, {"if", "y", api.ErrNotFound}, {"nn", "y", api.ErrNotFound}, {long, "y", api.ErrNotFound},
		// Names that are only assigned or only used are not declared.
		{"free", "y", api.ErrNotFound}, {"other", "y", api.ErrNotFound},
		{"n", "m", api.ErrDuplicate}, {"n", "b", api.ErrDuplicate}, {"n", "s", api.ErrDuplicate}, {"n", "i", api.ErrDuplicate}, {"n", "free", api.ErrDuplicate}, {"n", "other", api.ErrDuplicate}, {"n", "n", api.ErrDuplicate}, {"s", "s", api.ErrDuplicate}, {"i", "n", api.ErrDuplicate}, {"b", "n", api.ErrDuplicate},
		// Of two errors, that of the new name comes before that of the old one, and the latter before a duplicate.
		{"x", "N", api.ErrName}, {"", "", api.ErrName}, {"x", "if", api.ErrName}, {"free", "let", api.ErrName}, {"x", "n", api.ErrNotFound}, {"free", "n", api.ErrNotFound}, {"other", "other", api.ErrNotFound}, {"p", "p", api.ErrNotFound}, {"x", "x", api.ErrNotFound},
	} {
		checkRename(t, p, c.from, c.to, api.Proc{}, c.want)
	}
	for _, word := range allKeywords() {
		checkRename(t, p, "n", word, api.Proc{}, api.ErrName)
		checkRename(t, p, word, "y", api.Proc{}, api.ErrNotFound)
	}
	for _, to := range []string{"p", "k", "nn", "y", long, "lets", "sn", "fre", "others"} {
		want, e := renamedOf(p, "n", to)
		checkRename(t, p, "n", to, want, api.OK)
		if e != api.OK {
			t.Errorf("the test takes %q for a wrong name: %d", to, e)
		}
	}
}

// TestP8_6NotValid renames in procedures that are not valid, whatever the names.
func TestP8_6NotValid(t *testing.T) {
	wrong := append(strangeProcs(), withParams(params(7)...), withParams(param("a", 4)), withParams(param("a", 1), param("a", 1)), proc(aborts(401)...))
	for _, l := range wrongStmts() {
		for _, s := range l {
			wrong = append(wrong, proc(let("a", number(1)), s))
		}
	}
	for _, p := range wrong {
		for _, names := range [][2]string{{"a", "b"}, {"a", "A"}, {"x", "b"}, {"a", "a"}, {"", ""}} {
			checkRename(t, p, names[0], names[1], api.Proc{}, api.ErrArg)
		}
	}
}

// TestP8_6Duplicates renames to a name that occurs only at one place.
func TestP8_6Duplicates(t *testing.T) {
	v := variable
	for _, s := range stmts(
		let("w", number(1)), set("w", number(1)), loop("w", number(0), number(1), 1), let("x", v("w")), set("x", v("w")), put(v("w"), number(1)), put(number(1), v("w")), remove(v("w")), when(v("w"), nil, nil),
		loop("x", v("w"), number(1), 1), loop("x", number(1), v("w"), 1), emit(v("w")), emit(wrapped(v("w"), 11, wraps()[0])), put(number(1), wrapped(v("w"), 11, wraps()[3])),
	) {
		for _, nest := range nests() {
			for _, levels := range []int{0, 1, 11} {
				p := proc(let("v", number(1)), nested(s, levels, nest))
				checkRename(t, p, "v", "w", api.Proc{}, api.ErrDuplicate)
				checkRename(t, proc(p.Body[1], p.Body[0]), "v", "w", api.Proc{}, api.ErrDuplicate)
			}
		}
	}
	for _, l := range [][]api.Param{{param("v", 1), param("w", 1)}, {param("w", 1), param("v", 1)}} {
		checkRename(t, withParams(l...), "v", "w", api.Proc{}, api.ErrDuplicate)
	}
	// A string is no name.
	for _, s := range stmts(emit(text("w")), put(text("w"), apply(api.EGetInt, text("w")))) {
		q, _ := renamedOf(proc(let("v", number(1)), s), "v", "w")
		checkRename(t, proc(let("v", number(1)), s), "v", "w", q, api.OK)
	}
}

// TestP8_6All renames all names of many procedures to many names.
func TestP8_6All(t *testing.T) {
	counts := map[api.Errno]int{}
	for _, p := range append(validProcs(), strangeProcs()...) {
		for _, from := range []string{"a", "x", "s", "i", "free", "if", ""} {
			for _, to := range []string{"b", "y", "n", "zz", "X"} {
				want, e := renamedOf(p, from, to)
				checkRename(t, p, from, to, want, e)
				counts[e]++
			}
		}
	}
	for _, e := range []api.Errno{api.OK, api.ErrArg, api.ErrName, api.ErrNotFound, api.ErrDuplicate} {
		if counts[e] < 50 {
			t.Errorf("%d results are %d", counts[e], e)
		}
	}
}

// TestP8_7Rename renames all declared names, and back.
func TestP8_7Rename(t *testing.T) {
	for _, p := range validProcs() {
		for _, from := range Names(p) {
			q, e := Rename(p, from, "fresh")
			if e != api.OK || Validate(q) != api.OK || Nodes(q) != Nodes(p) || Depth(q) != Depth(p) || Equal(p, q) {
				t.Fatalf("Rename(%+v, %q) = %+v, %d", p, from, q, e)
			}
			if l := Names(q); slices.Contains(l, from) || !slices.Contains(l, "fresh") || len(l) != len(Names(p)) {
				t.Fatalf("Rename(%+v, %q) has the names %q", p, from, l)
			}
			if back, e := Rename(q, "fresh", from); e != api.OK || !Equal(back, p) || !isSame(back, p) {
				t.Fatalf("renaming %+v back to %q gives %+v, %d", q, from, back, e)
			}
		}
	}
}

func TestP8_7Valid(t *testing.T) {
	for _, p := range append(append(validProcs(), strangeProcs()...), randomProcs(300)...) {
		if Validate(p) != api.OK {
			continue
		}
		if n, d := Nodes(p), Depth(p); n > mostNodes || d > mostDepth {
			t.Errorf("the valid procedure %+v has %d nodes and the depth %d", p, n, d)
		}
		for _, e := range Exprs(p) {
			if err := ValidExpr(e); err != api.OK {
				t.Errorf("the valid procedure %+v has the expression %+v with the error %d", p, e, err)
			}
		}
	}
}
