package interp

import (
	"clockwork/api"
	"reflect"
	"runtime"
	"slices"
	"strings"
	"testing"
	"unsafe"
)

// roomy returns the elements of l, each made by f, in front of one more element, which is not a part of the result.
func roomy[E any](l []E, edge E, f func(x E) E) []E {
	whole := make([]E, 0, len(l)+1)
	for _, x := range l {
		whole = append(whole, f(x))
	}
	return append(whole, edge)[:len(l)]
}

func roomyExpr(e api.Expr) api.Expr {
	e.S = strings.Clone(e.S)
	e.Args = roomy(e.Args, api.Expr{Op: api.EVar, S: "edge"}, roomyExpr)
	return e
}

func roomyStmt(s api.Stmt) api.Stmt {
	edge := api.Stmt{Op: api.SAbort, Max: 77}
	s.Name, s.A, s.B = strings.Clone(s.Name), roomyExpr(s.A), roomyExpr(s.B)
	s.Body, s.Else = roomy(s.Body, edge, roomyStmt), roomy(s.Else, edge, roomyStmt)
	return s
}

func roomyValue(v api.Value) api.Value {
	v.S = strings.Clone(v.S)
	return v
}

func roomyPairs(l []api.Pair) []api.Pair {
	return roomy(l, api.Pair{Key: "zz", Val: str("edge")}, func(p api.Pair) api.Pair { return api.Pair{Key: strings.Clone(p.Key), Val: roomyValue(p.Val)} })
}

func roomyFoot(f api.Footprint) api.Footprint {
	return api.Footprint{All: f.All, Reads: roomy(f.Reads, "zz", strings.Clone), Writes: roomy(f.Writes, "zz", strings.Clone)}
}

// roomyRun returns a copy of r in which each list is a part of longer memory.
func roomyRun(r aRun) aRun {
	params := roomy(r.p.Params, api.Param{Name: "edge", Type: 1}, func(x api.Param) api.Param { return api.Param{Name: strings.Clone(x.Name), Type: x.Type} })
	p := api.Proc{Name: strings.Clone(r.p.Name), Params: params, Body: roomy(r.p.Body, api.Stmt{Op: api.SAbort, Max: 77}, roomyStmt)}
	return aRun{p, roomy(r.args, integer(9), roomyValue), roomyPairs(r.pairs), roomyFoot(r.foot)}
}

// roomyEval does the same for an evaluation.
func roomyEval(x anEval) anEval {
	return anEval{roomyExpr(x.e), roomyPairs(x.vars), roomyPairs(x.pairs), roomyFoot(x.foot)}
}

// whole returns the list with all its memory, of which f returns each element.
func whole[E any](l []E, f func(x E) E) []E {
	list := slices.Clone(l[:cap(l)])
	for i := range list {
		list[i] = f(list[i])
	}
	return list
}

func wholeExpr(e api.Expr) api.Expr {
	e.Args = whole(e.Args, wholeExpr)
	return e
}

func wholeStmt(s api.Stmt) api.Stmt {
	s.A, s.B, s.Body, s.Else = wholeExpr(s.A), wholeExpr(s.B), whole(s.Body, wholeStmt), whole(s.Else, wholeStmt)
	return s
}

// wholeRun returns r with all the memory of its lists.
func wholeRun(r aRun) aRun {
	r.p.Params, r.p.Body = r.p.Params[:cap(r.p.Params)], whole(r.p.Body, wholeStmt)
	return aRun{r.p, r.args[:cap(r.args)], r.pairs[:cap(r.pairs)], wholeFoot(r.foot)}
}

func wholeFoot(f api.Footprint) api.Footprint {
	return api.Footprint{All: f.All, Reads: f.Reads[:cap(f.Reads)], Writes: f.Writes[:cap(f.Writes)]}
}

// wholeEval does the same for an evaluation.
func wholeEval(x anEval) anEval {
	return anEval{wholeExpr(x.e), x.vars[:cap(x.vars)], x.pairs[:cap(x.pairs)], wholeFoot(x.foot)}
}

// TestP0_4Arguments requires that nothing of an argument is changed, also not behind its lists, and that nothing behind them is used.
func TestP0_4Arguments(t *testing.T) {
	for _, r := range randomRuns(3000) {
		arg := roomyRun(r)
		want := definedRun(r.p, r.args, r.pairs, r.foot)
		checkEffect(t, Run(arg.p, arg.args, arg.pairs, arg.foot), want, want, r.String())
		want = definedRun(r.p, r.args, r.pairs, everything())
		checkEffect(t, Free(arg.p, arg.args, arg.pairs), want, want, r.String())
		if !reflect.DeepEqual(wholeRun(arg), wholeRun(roomyRun(r))) {
			t.Fatalf("the arguments were changed:\n%s", r)
		}
	}
	for _, x := range randomEvals(3000) {
		arg := roomyEval(x)
		v, want := definedEval(x.e, x.vars, x.pairs, x.foot)
		checkEval(t, arg.e, arg.vars, arg.pairs, arg.foot, v, want)
		if !reflect.DeepEqual(wholeEval(arg), wholeEval(roomyEval(x))) {
			t.Fatalf("the arguments %+v were changed", x)
		}
	}
	a, b := full(), full()
	if Same(a, b); describe(a) != describe(full()) || describe(b) != describe(full()) {
		t.Error("Same changes its arguments")
	}
}

// memory is a part of the memory, from its first byte to the one behind its last one.
type memory struct{ start, end uintptr }

func textMemory(s string) memory {
	start := uintptr(unsafe.Pointer(unsafe.StringData(s)))
	return memory{start, start + uintptr(len(s))}
}

// listMemory returns the memory of the list, with what is behind its last element, and that of the texts in it.
func listMemory[E any](list []E, text func(x E) []string) []memory {
	start := uintptr(unsafe.Pointer(unsafe.SliceData(list)))
	l := []memory{{start, start + uintptr(cap(list))*unsafe.Sizeof(*new(E))}}
	for _, x := range list {
		for _, s := range text(x) {
			l = append(l, textMemory(s))
		}
	}
	return l
}

func keysMemory(l []string) []memory {
	return listMemory(l, func(s string) []string { return []string{s} })
}

func valuesMemory(l []api.Value) []memory {
	return listMemory(l, func(v api.Value) []string { return []string{v.S} })
}

func pairsMemory(l []api.Pair) []memory {
	return listMemory(l, func(p api.Pair) []string { return []string{p.Key, p.Val.S} })
}

func footMemory(f api.Footprint) []memory {
	return slices.Concat(keysMemory(f.Reads), keysMemory(f.Writes))
}

func exprMemory(e api.Expr) []memory {
	l := []memory{textMemory(e.S)}
	for _, arg := range e.Args {
		l = append(l, exprMemory(arg)...)
	}
	return l
}

func stmtsMemory(body []api.Stmt) []memory {
	var l []memory
	for _, s := range body {
		l = slices.Concat(l, exprMemory(s.A), exprMemory(s.B), stmtsMemory(s.Body), stmtsMemory(s.Else))
	}
	return l
}

func effectMemory(e api.Effect) []memory {
	return slices.Concat(valuesMemory(e.Outcome.Out), keysMemory(e.Reads), keysMemory(e.Puts), pairsMemory(e.Writes), []memory{textMemory(e.Miss)})
}

// sharing tells whether a part shares memory with another one, or with one of the others.
func sharing(parts, others []memory) bool {
	others = slices.Clone(others)
	for _, part := range parts {
		for _, other := range others {
			if part.start < other.end && other.start < part.end {
				return true
			}
		}
		if part.start < part.end {
			others = append(others, part)
		}
	}
	return false
}

// TestP0_4NewMemory requires that results share no memory with the arguments, with one another, and within themselves.
func TestP0_4NewMemory(t *testing.T) {
	for _, r := range randomRuns(2000) {
		r = roomyRun(r)
		first, second := Run(r.p, r.args, r.pairs, r.foot), Run(r.p, r.args, r.pairs, r.foot)
		others := slices.Concat(stmtsMemory(r.p.Body), valuesMemory(r.args), pairsMemory(r.pairs), footMemory(r.foot))
		if sharing(slices.Concat(effectMemory(first), effectMemory(second)), others) {
			t.Fatalf("the results share memory with others, of\n%s", r)
		}
		// Memory that is given back could be that of the next result.
		runtime.KeepAlive([]any{r, first, second})
	}
	for _, x := range randomEvals(4000) {
		x = roomyEval(x)
		v, first := Eval(x.e, x.vars, x.pairs, x.foot)
		w, second := Eval(x.e, x.vars, x.pairs, x.foot)
		others := slices.Concat(exprMemory(x.e), pairsMemory(x.vars), pairsMemory(x.pairs), footMemory(x.foot))
		if sharing(slices.Concat([]memory{textMemory(v.S), textMemory(w.S)}, effectMemory(first), effectMemory(second)), others) {
			t.Fatalf("the results share memory with others, of %+v", x)
		}
		runtime.KeepAlive([]any{x, v, w, first, second})
	}
}

// TestP0_4NewMemoryOfEach requires the same for each way from an argument to a result.
func TestP0_4NewMemoryOfEach(t *testing.T) {
	args, pairs := []api.Value{str(strings.Clone("kk")), integer(1)}, roomyPairs(pairsOf("kk", "text", "rr", "other"))
	for _, body := range []string{
		`emit k; emit k; emit "lit"; emit "lit"; let a = k; emit a; emit getstr(k); emit getstr(k);`,
		`put "lit" = k; put k = k; put "m2" = "lit"; emit getstr(k); emit getstr("lit"); put "m3" = getstr("lit"); put "m4" = getstr("rr"); delete "m5"; emit getstr("m4");`,
		`put "lit" = getstr("lit"); delete k; emit getstr(k); emit getint("absent");`,
		`emit getstr("out1");`, `delete k; put "out1" = 1;`, `put "ll" = getstr(k); n = getint(k);`,
	} {
		p := roomyRun(aRun{p: proc(t, body)}).p
		for _, foot := range []api.Footprint{everything(), roomyFoot(foot("kk lit rr", "kk lit ll m2 m3 m4 m5"))} {
			first, second := Run(p, args, pairs, foot), Run(p, args, pairs, foot)
			others := slices.Concat(stmtsMemory(p.Body), valuesMemory(args), pairsMemory(pairs), footMemory(foot))
			if sharing(slices.Concat(effectMemory(first), effectMemory(second)), others) {
				t.Errorf("the results share memory with others, of\n%s", show(p))
			}
			runtime.KeepAlive([]any{p, foot, first, second})
		}
	}
	for _, text := range []string{"s1", `"lit"`, `getstr("kk")`, `getstr("absent")`, `s1 ++ ""`, `has("rr") and has("absent")`, `getint("kk")`, `getint("absent") + getint("kk")`} {
		e := roomyExpr(expr(t, text))
		vars := roomyPairs([]api.Pair{{Key: "s1", Val: str("variable")}})
		for _, foot := range []api.Footprint{everything(), roomyFoot(foot("kk rr", ""))} {
			v, first := Eval(e, vars, pairs, foot)
			w, second := Eval(e, vars, pairs, foot)
			others := slices.Concat(exprMemory(e), pairsMemory(vars), pairsMemory(pairs), footMemory(foot))
			if sharing(slices.Concat([]memory{textMemory(v.S), textMemory(w.S)}, effectMemory(first), effectMemory(second)), others) {
				t.Errorf("the results share memory with others, of %s", text)
			}
			runtime.KeepAlive([]any{e, vars, foot, v, w, first, second})
		}
	}
}

// TestP0_4NothingKept requires that a call does not depend on other ones, nor on what became of their results.
func TestP0_4NothingKept(t *testing.T) {
	runs := slices.Clone(randomRuns(400))
	for range 3 {
		for _, r := range runs {
			want := definedRun(r.p, r.args, r.pairs, r.foot)
			e := Run(r.p, r.args, r.pairs, r.foot)
			checkEffect(t, e, want, want, r.String())
			for _, l := range [][]string{e.Reads, e.Puts} {
				for i := range l[:cap(l)] {
					l[:cap(l)][i] = "changed"
				}
			}
			for i := range e.Writes {
				e.Writes[i] = api.Pair{Key: "changed", Val: str("changed")}
			}
			for i := range e.Outcome.Out {
				e.Outcome.Out[i] = str("changed")
			}
			checkEval(t, expr(t, `getint("i0") + 1`), nil, pairsOf("i0", 4), foot("i0", ""), integer(5), evaluated("i0"))
			checkEval(t, expr(t, "k"), nil, nil, everything(), api.Value{}, stopped(1009))
		}
		slices.Reverse(runs)
	}
}

// TestP0_1Together calls the functions at the same time.
func TestP0_1Together(t *testing.T) {
	runs, evals := randomRuns(400), randomEvals(400)
	done := make(chan bool)
	for range 8 {
		go func() {
			same := true
			for _, r := range runs {
				same = same && describe(Run(r.p, r.args, r.pairs, r.foot)) == describe(definedRun(r.p, r.args, r.pairs, r.foot))
			}
			for _, x := range evals {
				v, e := Eval(x.e, x.vars, x.pairs, x.foot)
				w, want := definedEval(x.e, x.vars, x.pairs, x.foot)
				same = same && v == w && describe(e) == describe(want)
			}
			done <- same
		}()
	}
	for range 8 {
		if !<-done {
			t.Error("calls at the same time have different results")
		}
	}
}

// rejects requires that the procedure and the expression are rejected.
func rejects(t *testing.T, p api.Proc, e api.Expr) {
	t.Helper()
	for _, foot := range []api.Footprint{everything(), {}} {
		if got := Run(p, nil, nil, foot); describe(got) != describe(rejection()) {
			t.Errorf("the effect of a run is %s", describe(got))
		}
		if v, got := Eval(e, variables(), nil, foot); v != (api.Value{}) || describe(got) != describe(rejection()) {
			t.Errorf("the result of an evaluation is %q, %s", valueText(v), describe(got))
		}
	}
	if got := Free(p, nil, nil); describe(got) != describe(rejection()) {
		t.Errorf("the effect of Free is %s", describe(got))
	}
}

// TestP0_1Levels has as many levels of nesting as the document speaks of.
func TestP0_1Levels(t *testing.T) {
	e := api.Expr{Op: api.EVar, S: "n"}
	body := []api.Stmt{{Op: api.SAbort}}
	for range mostLevels - 1 {
		e = api.Expr{Op: api.ENeg, Args: []api.Expr{e}}
		body = []api.Stmt{{Op: api.SIf, A: api.Expr{Op: api.EHas, Args: []api.Expr{{Op: api.EStr, S: "k"}}}, Body: body}}
	}
	rejects(t, api.Proc{Name: "p", Body: body}, e)
	rejects(t, api.Proc{Name: "p", Body: []api.Stmt{{Op: api.SEmit, A: e}}}, e)
}

// TestP0_1NoEnd has lists that contain themselves, and so are nested without end.
func TestP0_1NoEnd(t *testing.T) {
	e := api.Expr{Op: api.EAdd, Args: make([]api.Expr, 2)}
	e.Args[0], e.Args[1] = e, e
	body := proc(t, `if has("k") { emit 1; } else { delete "k"; }`).Body
	body[0].Body, body[0].Else = body, body
	rejects(t, api.Proc{Name: "p", Body: body}, e)
	rejects(t, api.Proc{Name: "p", Body: []api.Stmt{{Op: api.SEmit, A: e}}}, e)
}

// TestP0_1Limits has statements and expressions that are nested as deeply as possible.
func TestP0_1Limits(t *testing.T) {
	e, value := api.Expr{Op: api.EVar, S: "n"}, int64(7)
	for range mostDepth - 1 {
		e, value = api.Expr{Op: api.EAdd, Args: []api.Expr{e, e}}, value*2
	}
	checkEval(t, e, variables(), nil, api.Footprint{}, integer(value), evaluated())
	checkEval(t, e, []api.Pair{{Key: "n", Val: integer(1 << 52)}}, nil, api.Footprint{}, api.Value{}, stopped(1001))
	checkBody(t, strings.Repeat("if n == 2 {", mostDepth-1)+"emit 4;"+strings.Repeat("}", mostDepth-1), api.Footprint{}, committed(mostDepth, "", none, 4))
	checkBody(t, strings.Repeat("if n != 2 {} else {", mostDepth-1)+"abort 4;"+strings.Repeat("}", mostDepth-1), api.Footprint{}, aborts(4, mostDepth, "", ""))
}
