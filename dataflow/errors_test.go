package dataflow

import (
	"clockwork/api"
	"clockwork/types"
	"slices"
	"testing"
)

// bodies are those of procedures with all results.
func bodies() []string {
	return []string{"", "emit n;", `n = getint("k");`, `put getstr("k") = 1;`, `if has("k") { n = 1; }`, `let c = getint("k"); for i = 0 to c max 2 { s = getstr(text(c)); delete s; }`}
}

// TestP14_3Types has errors of types.Check in front of other statements, and behind them.
func TestP14_3Types(t *testing.T) {
	for _, s := range []string{
		"emit y;", "y = 1;", "if n == 1 { let x = 1; } emit x;", "emit x; let x = 1;", "let n = 1;", "for w = 0 to 1 max 1 { w = 2; }",
		"emit -s;", "n = s;", `s = getint("k");`, "put n = 1;", `put getint("k") = 1;`, "put s = has(s);", "delete n;", "if n {}", "for w = s to 1 max 1 {}", "emit has(s);", "let x = getint(n);",
	} {
		for _, body := range bodies() {
			checkProc(t, proc(t, s+body), results{})
			checkProc(t, proc(t, body+s), results{})
			checkProc(t, proc(t, "if has(s) {"+body+"} else {"+s+"}"), results{})
			checkProc(t, proc(t, "for u = 0 to n max 16 {"+body+s+"}"), results{})
		}
	}
}

// nested returns the statements inside of so many others.
func nested(body []api.Stmt, levels int) []api.Stmt {
	for range levels {
		body = []api.Stmt{{Op: api.SIf, A: api.Expr{Op: api.EHas, Args: []api.Expr{{Op: api.EStr}}}, Body: body}}
	}
	return body
}

// negated returns the expression as the operand of so many others.
func negated(e api.Expr, levels int) api.Expr {
	for range levels {
		e = api.Expr{Op: api.ENeg, Args: []api.Expr{e}}
	}
	return e
}

// wrongStmts are statements that are not valid, with the parameter n.
func wrongStmts() []api.Stmt {
	variable := api.Expr{Op: api.EVar, S: "n"}
	return []api.Stmt{
		{}, {Op: 9}, {Op: api.SLet, A: variable}, {Op: api.SAbort, Max: 1000}, {Op: api.SAbort, Max: -1},
		{Op: api.SEmit, A: variable, B: variable}, {Op: api.SPut, A: variable}, {Op: api.SEmit, A: variable, Body: []api.Stmt{{Op: api.SAbort}}},
		{Op: api.SFor, Name: "w", A: variable, B: variable, Max: 1, Else: []api.Stmt{{Op: api.SAbort}}},
		{Op: api.SFor, Name: "w", A: variable, B: variable}, {Op: api.SFor, Name: "w", A: variable, B: variable, Max: 17},
		{Op: api.SEmit, A: api.Expr{Op: api.EGetInt}}, {Op: api.SDelete, A: api.Expr{Op: api.EGetStr, Args: []api.Expr{variable, variable}}},
		{Op: api.SEmit, A: api.Expr{Op: 28}}, {Op: api.SEmit, A: api.Expr{Op: api.EInt, N: -1}}, {Op: api.SEmit, A: negated(variable, mostDepth)},
		{Op: api.SIf, A: api.Expr{Op: api.EHas, Args: []api.Expr{{Op: api.EStr}}}, Else: make([]api.Stmt, 1)},
	}
}

// TestP14_3Invalid has procedures that are not valid or have wrong parameters, whatever else they have.
func TestP14_3Invalid(t *testing.T) {
	changes := []func(p *api.Proc){
		func(p *api.Proc) { p.Name = "P" },
		func(p *api.Proc) { p.Params = slices.Repeat(p.Params, 4) },
		func(p *api.Proc) { p.Params[1].Type = 0 },
		func(p *api.Proc) { p.Params = append(p.Params, api.Param{Name: "b", Type: api.TyBool}) },
		func(p *api.Proc) { p.Params[1].Name = p.Params[0].Name },
		func(p *api.Proc) {
			p.Body = append(p.Body, slices.Repeat([]api.Stmt{{Op: api.SAbort}}, mostNodes+1)...)
		},
		func(p *api.Proc) { p.Body = nested(append(p.Body, api.Stmt{Op: api.SAbort}), mostDepth) },
	}
	for _, s := range wrongStmts() {
		changes = append(changes, func(p *api.Proc) { p.Body = append([]api.Stmt{s}, p.Body...) }, func(p *api.Proc) { p.Body = append(p.Body, s) })
	}
	for i, change := range changes {
		for _, body := range bodies() {
			p := proc(t, body)
			change(&p)
			if types.Check(p) == api.OK {
				t.Fatalf("the change %d is none", i)
			}
			checkProc(t, p, results{})
		}
	}
	checkProc(t, api.Proc{}, results{})
}

// TestP14_3Limits has as deeply nested statements and expressions as allowed, and as many nodes, and more.
func TestP14_3Limits(t *testing.T) {
	read := api.Expr{Op: api.EGetInt, Args: []api.Expr{{Op: api.EGetStr, Args: []api.Expr{{Op: api.EStr}}}}}
	for depth := 1; depth <= mostDepth+2; depth++ {
		want := results{tainted: "x", keys: true, control: depth > 1}
		if depth > mostDepth {
			want = results{}
		}
		checkProc(t, api.Proc{Name: "p", Body: nested([]api.Stmt{{Op: api.SLet, Name: "x", A: read}}, depth-1)}, want)
		if want.control = false; depth > 2 {
			checkProc(t, api.Proc{Name: "p", Body: []api.Stmt{{Op: api.SLet, Name: "x", A: negated(read, depth-3)}}}, want)
		}
	}
	// The node that is one too many may be the only tainted one.
	aborts := slices.Repeat([]api.Stmt{{Op: api.SAbort}}, mostNodes-4)
	let := api.Stmt{Op: api.SLet, Name: "x", A: read}
	checkProc(t, api.Proc{Name: "p", Body: append(aborts, let)}, results{tainted: "x", keys: true})
	checkProc(t, api.Proc{Name: "p", Body: append(aborts, let, aborts[0])}, results{})
	checkProc(t, api.Proc{Name: "p", Body: append(aborts, aborts[0], let)}, results{})
}
