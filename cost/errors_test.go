package cost

import (
	"clockwork/api"
	"clockwork/determinism"
	"slices"
	"testing"
)

// bodies are those of accepted procedures, and of others that exceed limits.
func bodies() []string {
	return []string{"", "emit n;", "put k = getint(k); if has(k) { delete k; emit 1; }", busy(mostSteps + 1), repeated(mostKeys+1, "delete k;"), repeated(mostKeys+1, "n = getint(k);"), repeated(mostEmits+1, "emit n;")}
}

// TestP13_1Checked has errors of determinism.Check in front of other statements, and behind them.
func TestP13_1Checked(t *testing.T) {
	for s, want := range map[string]api.Errno{
		"emit y;": api.ErrUnassigned, "y = 1;": api.ErrUnassigned, "if n == 1 { let x = 1; } emit x;": api.ErrUnassigned,
		"let n = 1;": api.ErrDuplicate, "for w = 0 to 1 max 1 { w = 2; }": api.ErrName,
		"emit -k;": api.ErrType, "put n = 1;": api.ErrType, "put k = has(k);": api.ErrType, "delete n;": api.ErrType, "if n {}": api.ErrType, "for w = k to 1 max 1 {}": api.ErrType, "emit has(k);": api.ErrType,
		"let x = now();": api.ErrNondeterministic, "emit 1 + random();": api.ErrNondeterministic, "put text(node()) = 1;": api.ErrNondeterministic, "if n == 1 {} else { n = getint(text(now())); }": api.ErrNondeterministic,
		"emit now(); emit y;": api.ErrUnassigned,
	} {
		for _, body := range bodies() {
			checkProc(t, proc(t, s+body), none(), want)
			checkProc(t, proc(t, body+s), none(), want)
			checkProc(t, proc(t, "if has(k) {"+body+"} else {"+s+"}"), none(), want)
			checkProc(t, proc(t, "for u = 0 to n max 16 {"+body+s+"}"), none(), want)
		}
	}
}

// invalidChanges returns changes that make a procedure with two parameters one that is not valid or not typed.
func invalidChanges() map[string]func(p *api.Proc) {
	variable := api.Expr{Op: api.EVar, S: "n"}
	changes := map[string]func(p *api.Proc){
		"name":       func(p *api.Proc) { p.Name = "P" },
		"parameters": func(p *api.Proc) { p.Params = slices.Repeat(p.Params, 4) },
		"type":       func(p *api.Proc) { p.Params[1].Type = 0 },
		"bool":       func(p *api.Proc) { p.Params = append(p.Params, api.Param{Name: "b", Type: api.TyBool}) },
		"duplicate":  func(p *api.Proc) { p.Params[1].Name = p.Params[0].Name },
		"too many": func(p *api.Proc) {
			p.Body = append(p.Body, slices.Repeat([]api.Stmt{{Op: api.SAbort}}, mostNodes+1)...)
		},
		"nested": func(p *api.Proc) { p.Body = nested(p.Body, mostDepth+1) },
	}
	for name, s := range map[string]api.Stmt{
		"zero":        {},
		"operator":    {Op: 9},
		"no name":     {Op: api.SLet, A: variable},
		"code":        {Op: api.SAbort, Max: 1000},
		"minus":       {Op: api.SAbort, Max: -1},
		"field":       {Op: api.SEmit, A: variable, B: variable},
		"put":         {Op: api.SPut, A: variable},
		"body":        {Op: api.SEmit, A: variable, Body: []api.Stmt{{Op: api.SAbort}}},
		"else":        {Op: api.SFor, Name: "w", A: variable, B: variable, Max: 1, Else: []api.Stmt{{Op: api.SAbort}}},
		"no loop":     {Op: api.SFor, Name: "w", A: variable, B: variable},
		"greater":     {Op: api.SFor, Name: "w", A: variable, B: variable, Max: 17},
		"negative":    {Op: api.SFor, Name: "w", A: variable, B: variable, Max: -1},
		"operand":     {Op: api.SEmit, A: api.Expr{Op: api.ENeg}},
		"no operator": {Op: api.SEmit, A: api.Expr{Op: 28}},
		"constant":    {Op: api.SEmit, A: api.Expr{Op: api.EInt, N: -1}},
		"deep":        {Op: api.SEmit, A: negated(variable, mostDepth)},
		"inside":      {Op: api.SIf, A: api.Expr{Op: api.EHas, Args: []api.Expr{{Op: api.EStr}}}, Else: make([]api.Stmt, 1)},
	} {
		changes["first "+name] = func(p *api.Proc) { p.Body = append([]api.Stmt{s}, p.Body...) }
		changes["last "+name] = func(p *api.Proc) { p.Body = append(p.Body, s) }
	}
	return changes
}

// nested returns the statements inside of so many others.
func nested(body []api.Stmt, levels int) []api.Stmt {
	for range levels {
		body = []api.Stmt{{Op: api.SIf, A: api.Expr{Op: api.EHas, Args: []api.Expr{{Op: api.EStr}}}, Body: body}}
	}
	return body
}

// negated returns the expression as the operand of so many others.
func negated(e api.Expr, levels int) api.Expr {
	for range levels {
		e = api.Expr{Op: api.ENeg, Args: []api.Expr{e}}
	}
	return e
}

// TestP13_1Invalid has procedures that are not valid or have wrong parameters, whatever else they have.
func TestP13_1Invalid(t *testing.T) {
	for name, change := range invalidChanges() {
		for _, body := range append(bodies(), "emit now();", "emit y;") {
			p := proc(t, body)
			change(&p)
			e := determinism.Check(p)
			if e == api.OK {
				t.Fatalf("the change of %s is none", name)
			}
			checkProc(t, p, none(), e)
		}
	}
	checkProc(t, api.Proc{}, none(), api.ErrName)
}

// TestP13_1Nested has as deeply nested statements and expressions as allowed, and as many nodes.
func TestP13_1Nested(t *testing.T) {
	number := api.Expr{Op: api.EGetInt, Args: []api.Expr{{Op: api.EStr}}}
	for depth := 1; depth <= mostDepth+2; depth++ {
		want, e := amounts{int64(depth), int64(depth), 0, 1}, api.OK
		wantExpr := amounts{1, 1, 0, 1}
		if depth > mostDepth {
			want, wantExpr, e = none(), none(), api.ErrLimit
		}
		checkProc(t, api.Proc{Name: "p", Body: nested([]api.Stmt{{Op: api.SEmit, A: number}}, depth-1)}, want, e)
		if depth > 1 {
			checkProc(t, api.Proc{Name: "p", Body: []api.Stmt{{Op: api.SEmit, A: negated(number, depth-2)}}}, wantExpr, e)
		}
	}
	aborts := slices.Repeat([]api.Stmt{{Op: api.SAbort}}, mostNodes)
	checkProc(t, api.Proc{Name: "p", Body: aborts}, amounts{steps: mostNodes}, api.OK)
	checkProc(t, api.Proc{Name: "p", Body: append(aborts, aborts[0])}, none(), api.ErrLimit)
}
