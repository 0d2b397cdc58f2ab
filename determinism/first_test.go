package determinism

import (
	"clockwork/api"
	"clockwork/ast"
	"clockwork/types"
	"fmt"
	"slices"
	"strings"
	"testing"
)

func TestP12_2Examples(t *testing.T) {
	checkFirst(t, proc(t, "let x = 1 + random(); emit x;"), found{api.ERandom, 2, true})
	checkFirst(t, proc(t, ""), found{})
	checkFirst(t, proc(t, "emit n; put s = getint(s); if has(s) { delete getstr(s); }"), found{})
	checkFirst(t, procOf(t, "proc p() { emit now(); }"), found{api.ENow, 0, true})
	checkFirst(t, procOf(t, "proc p() { emit node(); emit now(); }"), found{api.ENode, 0, true})
	checkFirst(t, procOf(t, "proc p() { emit 1; emit now(); emit random(); }"), found{api.ENow, 1, true})
	checkFirst(t, procOf(t, `proc p() { put "k" = -now(); }`), found{api.ENow, 2, true})
	checkFirst(t, procOf(t, `proc p() { abort 25; for i = 1 + 2 to random() - node() max 3 {} }`), found{api.ERandom, 4, true})
	checkFirst(t, api.Proc{}, found{})
}

// inPlaces returns a body with the operand in each of its places, except those where another one is named. The places are numbered in preorder.
func inPlaces(operand string, others map[int]string) string {
	src := "let a = E; n = E; put text(E) = E; delete text(E); if E == 0 { emit E; for i = E to E max 2 { put text(E) = E; } emit E; } else { emit E; if has(text(E)) {} else { emit E; } } abort 25; emit E;"
	for place := range places {
		text, ok := others[place]
		if !ok {
			text = operand
		}
		src = strings.Replace(src, "E", text, 1)
	}
	return src
}

const places = 16

// nodesBefore returns, for each place, the number of nodes before it, if each place has one node.
func nodesBefore() []int {
	return []int{0, 1, 3, 4, 6, 8, 10, 11, 12, 14, 15, 16, 17, 20, 21, 22}
}

// calls returns an expression for each nondeterministic operator.
func calls() map[int]string {
	return map[int]string{25: "now()", 26: "random()", 27: "node()"}
}

// TestP12_2Place has an operator at one place, also inside of a larger expression.
func TestP12_2Place(t *testing.T) {
	for _, operand := range []string{"1", "n"} {
		checkFirst(t, proc(t, inPlaces(operand, nil)), found{})
		for place, before := range nodesBefore() {
			for op, call := range calls() {
				for form, inside := range map[string]int{"(C)": 0, "(-C)": 1, "(1 + C)": 2, "(C + n)": 1, "(n * 2 - C)": 4, "len(text(C))": 2, "len(getstr(s ++ text(C)) ++ text(n))": 6, "(C / n - 25)": 2} {
					p := proc(t, inPlaces(operand, map[int]string{place: strings.Replace(form, "C", call, 1)}))
					checkFirst(t, p, found{op, before + inside, true})
				}
			}
			checkFirst(t, proc(t, inPlaces("getint(s)", map[int]string{place: "len(s)"})), found{})
		}
	}
}

// TestP12_2Places has operators at each two places, and in all of them.
func TestP12_2Places(t *testing.T) {
	numbers := nodesBefore()
	for i := range places {
		for j := range i {
			for a, first := range calls() {
				for _, second := range calls() {
					checkFirst(t, proc(t, inPlaces("1", map[int]string{j: first, i: second})), found{a, numbers[j], true})
				}
				// Each place before has one node more.
				checkFirst(t, proc(t, inPlaces("-1", map[int]string{j: first, i: "now()"})), found{a, numbers[j] + j, true})
			}
		}
	}
	for op, call := range calls() {
		checkFirst(t, proc(t, inPlaces(call, nil)), found{op, 0, true})
		checkFirst(t, proc(t, "emit s; "+inPlaces(call, nil)), found{op, 1, true})
		for other, second := range calls() {
			checkFirst(t, proc(t, "emit "+call+" + "+second+";"), found{op, 1, true})
			checkFirst(t, proc(t, "emit n * (2 - "+call+") + "+second+";"), found{op, 5, true})
			checkFirst(t, proc(t, "if has(s) { emit -"+second+"; } else { emit "+call+"; }"), found{other, 3, true})
		}
	}
}

// invalidChanges returns changes that make a valid procedure with two parameters invalid.
func invalidChanges() map[string]func(p *api.Proc) {
	first := func(s api.Stmt) func(p *api.Proc) {
		return func(p *api.Proc) { p.Body = append([]api.Stmt{s}, p.Body...) }
	}
	last := func(s api.Stmt) func(p *api.Proc) {
		return func(p *api.Proc) { p.Body = append(p.Body, s) }
	}
	number, now := api.Expr{Op: api.EInt}, api.Expr{Op: api.ENow}
	changes := map[string]func(p *api.Proc){
		"name":       func(p *api.Proc) { p.Name = "P" },
		"parameters": func(p *api.Proc) { p.Params = slices.Repeat(p.Params, 4) },
		"type":       func(p *api.Proc) { p.Params[1].Type = 4 },
		"duplicate":  func(p *api.Proc) { p.Params[1].Name = p.Params[0].Name },
		"too many": func(p *api.Proc) {
			p.Body = append(p.Body, slices.Repeat([]api.Stmt{{Op: api.SAbort}}, mostNodes+1)...)
		},
		"nested":       func(p *api.Proc) { p.Body = nested(p.Body, mostDepth) },
		"deep operand": last(api.Stmt{Op: api.SEmit, A: negated(number, mostDepth)}),
	}
	for name, s := range map[string]api.Stmt{
		"operator":  {Op: 9, A: now},
		"no name":   {Op: api.SLet, A: now},
		"code":      {Op: api.SAbort, Max: 1000},
		"field":     {Op: api.SEmit, A: now, B: number},
		"body":      {Op: api.SEmit, A: now, Body: []api.Stmt{{Op: api.SAbort}}},
		"no second": {Op: api.SPut, A: now},
		"operand":   {Op: api.SEmit, A: api.Expr{Op: api.ENeg}},
		"operands":  {Op: api.SEmit, A: api.Expr{Op: api.ENow, Args: []api.Expr{number}}},
		"number":    {Op: api.SEmit, A: api.Expr{Op: api.ENow, N: 1}},
		"text":      {Op: api.SEmit, A: api.Expr{Op: api.ENow, S: "s"}},
		"variable":  {Op: api.SEmit, A: api.Expr{Op: api.EVar, S: "now"}},
		"inside":    {Op: api.SIf, A: now, Else: make([]api.Stmt, 1)},
	} {
		changes["first "+name], changes["last "+name] = first(s), last(s)
	}
	return changes
}

// nested returns the statements inside of so many others.
func nested(body []api.Stmt, levels int) []api.Stmt {
	for range levels {
		body = []api.Stmt{{Op: api.SIf, A: api.Expr{Op: api.EInt}, Body: body}}
	}
	return body
}

// negated returns the expression as the operand of so many others.
func negated(e api.Expr, levels int) api.Expr {
	for range levels {
		e = api.Expr{Op: api.ENeg, Args: []api.Expr{e}}
	}
	return e
}

// TestP12_2Invalid has procedures that are not valid, with operators before and behind what is not.
func TestP12_2Invalid(t *testing.T) {
	for name, change := range invalidChanges() {
		for _, body := range []string{"emit now();", "emit 1; emit now();", "if has(s) { put s = random(); } emit node();", inPlaces("node()", nil)} {
			p := proc(t, body)
			if !firstOf(p).ok {
				t.Fatalf("First finds nothing in %q", body)
			}
			change(&p)
			if ast.Validate(p) == api.OK {
				t.Fatalf("the change of %s is none", name)
			}
			checkFirst(t, p, found{})
		}
	}
}

// TestP12_2NotChecked has procedures that are valid, but do not pass types.Check.
func TestP12_2NotChecked(t *testing.T) {
	for src, want := range map[string]found{
		"proc p(b: bool) { emit now(); }": {25, 0, true}, "proc p(b: bool) {}": {}, "proc p(n: int) { let n = random(); }": {26, 0, true},
		"proc p() { emit x + node(); }": {27, 2, true}, "proc p() { x = now(); }": {25, 0, true}, "proc p() { emit x; }": {}, "proc p() { if 1 + now() { delete random(); } }": {25, 2, true},
		`proc p() { emit not "a"; put 1 = has(random()); }`: {26, 4, true}, "proc p() { for i = 0 to 1 max 1 { i = node(); } }": {27, 2, true}, "proc p() { let x = 1; let x = 2; delete random() ++ now(); }": {26, 3, true},
	} {
		p := procOf(t, src)
		if types.Check(p) == api.OK {
			t.Fatalf("%q passes", src)
		}
		checkFirst(t, p, want)
	}
}

// TestP12_2Nodes has procedures with as many nodes as they may have, and more, of which the last one counts.
func TestP12_2Nodes(t *testing.T) {
	for op, call := range calls() {
		for nodes := mostNodes - 5; nodes <= mostNodes+5; nodes++ {
			p := proc(t, "emit "+call+";")
			for range (nodes - 2) / 2 {
				p.Body = append(proc(t, "emit 1;").Body, p.Body...)
			}
			if nodes%2 == 1 {
				p.Body = append(proc(t, "abort 1;").Body, p.Body...)
			}
			if n := ast.Nodes(p); n != min(nodes, mostNodes+1) {
				t.Fatalf("there are %d nodes", n)
			}
			want := found{op, (nodes - 2) / 2, true}
			if nodes > mostNodes {
				want = found{}
			}
			checkFirst(t, p, want)
		}
	}
}

// TestP12_2Depth has the deepest statements and expressions.
func TestP12_2Depth(t *testing.T) {
	for op := range calls() {
		for depth := 1; depth <= mostDepth+2; depth++ {
			want := found{op, depth - 1, true}
			if depth > mostDepth {
				want = found{}
			}
			e := api.Expr{Op: op}
			checkFirst(t, api.Proc{Name: "p", Body: nested([]api.Stmt{{Op: api.SEmit, A: e}}, depth-1)}, want)
			checkFirst(t, api.Proc{Name: "p", Body: []api.Stmt{{Op: api.SEmit, A: negated(e, depth-1)}}}, want)
			body := []api.Stmt{{Op: api.SEmit, A: e}}
			for range depth - 1 {
				body = []api.Stmt{{Op: api.SIf, A: api.Expr{Op: api.EInt}, Else: body}}
			}
			checkFirst(t, api.Proc{Name: "p", Body: body}, want)
		}
	}
}

// TestP12_2Random compares random procedures with the definition, valid or not.
func TestP12_2Random(t *testing.T) {
	counts := map[int]int{}
	greatest := 0
	for _, p := range randomProcs(20000) {
		want := definedFirst(p)
		checkFirst(t, p, want)
		counts[want.op]++
		greatest = max(greatest, want.before)
	}
	if counts[0] < 5000 || counts[25] < 1000 || counts[26] < 1000 || counts[27] < 1000 || greatest < 100 {
		t.Errorf("First finds %s, behind up to %d nodes", fmt.Sprint(counts), greatest)
	}
}
