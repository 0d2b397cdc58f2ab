package types

import (
	"clockwork/api"
	"clockwork/ast"
	"slices"
	"testing"
)

// namesIn lists the names of variables that the expressions use.
func namesIn(exprs ...api.Expr) []string {
	var l []string
	for _, e := range exprs {
		for _, x := range leavesFirst(&e) {
			if x.Op == api.EVar {
				l = append(l, x.S)
			}
		}
	}
	return l
}

// TestP11_5Declared requires that variables are declared in front of all their uses, and that no loop variable is assigned.
func TestP11_5Declared(t *testing.T) {
	passed := 0
	for _, p := range randomProcs(20000) {
		if Check(p) != api.OK {
			continue
		}
		passed++
		declared := map[string]bool{}
		loops := map[string]bool{}
		for _, x := range p.Params {
			declared[x.Name] = true
		}
		for _, x := range places(p.Body) {
			for _, name := range namesIn(x.stmt.A, x.stmt.B) {
				if !declared[name] {
					t.Fatalf("%s is used before it is declared in\n%s", name, show(p))
				}
			}
			switch x.stmt.Op {
			case api.SSet:
				if !declared[x.stmt.Name] || loops[x.stmt.Name] {
					t.Fatalf("%s is assigned in\n%s", x.stmt.Name, show(p))
				}
			case api.SFor, api.SLet:
				if declared[x.stmt.Name] {
					t.Fatalf("%s is declared twice in\n%s", x.stmt.Name, show(p))
				}
				declared[x.stmt.Name] = true
				loops[x.stmt.Name] = x.stmt.Op == api.SFor
			}
		}
	}
	if passed < 5000 {
		t.Errorf("%d procedures pass", passed)
	}
}

// TestP11_5Rename requires that renaming a variable changes neither the result of Check nor the types of variables.
func TestP11_5Rename(t *testing.T) {
	counts := map[api.Errno]int{}
	for _, p := range randomProcs(2000) {
		want, vars := Check(p), Vars(p)
		for i, from := range ast.Names(p) {
			for _, to := range []string{"fresh", "z_9", "x"} {
				q, e := ast.Rename(p, from, to)
				if e != api.OK {
					continue
				}
				counts[want]++
				checkProc(t, q, want)
				renamed := slices.Clone(vars)
				if want == api.OK {
					renamed[i].Name = to
				}
				if got := Vars(q); !slices.Equal(got, renamed) {
					t.Fatalf("Vars = %+v, want %+v, of\n%s", got, renamed, show(q))
				}
			}
		}
	}
	for _, e := range []api.Errno{api.OK, api.ErrName, api.ErrDuplicate, api.ErrType, api.ErrUnassigned} {
		if counts[e] < 20 {
			t.Errorf("%d procedures with the error %d are renamed", counts[e], e)
		}
	}
}

// TestP11_5MoreVars adds variables behind those that an expression uses, and others.
func TestP11_5MoreVars(t *testing.T) {
	g := newGenerator(5)
	typed := 0
	for i := range 20000 {
		g.errors = i % 3
		vars := g.params()
		e := g.expr(1+g.IntN(3), 1+i%6, vars)
		ty, err := Of(e, vars)
		if err != api.OK {
			continue
		}
		typed++
		g.errors = 30
		checkOf(t, e, slices.Concat(vars, g.params(), g.params()), ty, api.OK)
		checkOf(t, e, slices.Concat(vars, []api.Param{param("none", 7), param("", 0)}, vars), ty, api.OK)
	}
	if typed < 10000 {
		t.Errorf("%d expressions have a type", typed)
	}
}

// TestP11_5Unchanged requires that statements without an effect on scopes and types do not change the result of Check.
func TestP11_5Unchanged(t *testing.T) {
	for _, p := range randomProcs(5000) {
		want := Check(p)
		q := p
		q.Body = slices.Concat([]api.Stmt{{Op: api.SAbort}}, p.Body, []api.Stmt{{Op: api.SAbort, Max: 999}})
		if ast.Nodes(q) <= mostNodes {
			checkProc(t, q, want)
		}
		q.Body = []api.Stmt{{Op: api.SIf, A: api.Expr{Op: api.EHas, Args: []api.Expr{{Op: api.EStr}}}, Else: p.Body}}
		if ast.Depth(q) <= mostDepth && ast.Nodes(q) <= mostNodes {
			checkProc(t, q, want)
		}
	}
}
