package dataflow

import (
	"clockwork/api"
	"clockwork/ast"
	"clockwork/types"
	"slices"
	"strings"
	"testing"
)

// TestP14_4Premises requires of procedures without tainted keys and branches that these contain no tainted variable and no reading operator.
func TestP14_4Premises(t *testing.T) {
	count := 0
	for _, p := range randomProcs(10000) {
		if !Independent(p) || ControlTainted(p) {
			continue
		}
		tainted := append(Tainted(p), readingWords()...)
		var x parts
		x.add(p.Body, nil)
		for _, e := range slices.Concat(x.keys, x.branches) {
			for _, word := range wordsOf(e) {
				if slices.Contains(tainted, word) {
					t.Fatalf("%s is in a key or a branch of\n%s", word, show(p))
				}
			}
		}
		if len(tainted) > 3 && len(x.keys) > 0 && len(x.branches) > 0 {
			count++
		}
	}
	if count < 300 {
		t.Errorf("%d procedures have tainted variables, keys and branches", count)
	}
}

// TestP14_5Rename renames each variable of random procedures.
func TestP14_5Rename(t *testing.T) {
	count := 0
	for _, p := range randomProcs(1500) {
		got := resultsOf(p)
		for _, from := range ast.Names(p) {
			for _, to := range []string{"aa", "zz"} {
				q, e := ast.Rename(p, from, to)
				if e != api.OK {
					t.Fatalf("Rename from %s has the error %d of\n%s", from, e, show(p))
				}
				want := got
				l := strings.Fields(got.tainted)
				if i := slices.Index(l, from); i >= 0 {
					l[i] = to
					count++
				}
				want.tainted = strings.Join(l, " ")
				checkProc(t, q, want)
			}
		}
	}
	if count < 1500 {
		t.Errorf("%d tainted variables are renamed", count)
	}
}

// pointers lists the nodes of the expressions of the statements.
func pointers(body []api.Stmt) []*api.Expr {
	var l []*api.Expr
	for i := range body {
		s := &body[i]
		for _, e := range []*api.Expr{&s.A, &s.B} {
			for rest := []*api.Expr{e}; e.Op != 0 && len(rest) > 0; rest = rest[1:] {
				l = append(l, rest[0])
				for j := range rest[0].Args {
					rest = append(rest, &rest[0].Args[j])
				}
			}
		}
		l = append(l, pointers(s.Body)...)
		l = append(l, pointers(s.Else)...)
	}
	return l
}

// TestP14_5NoReads has random procedures, in which constants are put in the place of reading operators.
func TestP14_5NoReads(t *testing.T) {
	replaced := 0
	for _, p := range randomProcs(5000) {
		passes := types.Check(p) == api.OK
		for _, e := range pointers(p.Body) {
			switch e.Op {
			case api.EGetInt:
				*e = api.Expr{Op: api.EInt, N: 22}
			case api.EGetStr:
				*e = api.Expr{Op: api.EStr, S: "getstr"}
			case api.EHas:
				one := api.Expr{Op: api.EInt, N: 1}
				*e = api.Expr{Op: api.EEq, Args: []api.Expr{one, one}}
			default:
				continue
			}
			replaced++
		}
		if passes || types.Check(p) != api.OK {
			checkProc(t, p, results{independent: passes})
		}
	}
	if replaced < 3000 {
		t.Errorf("%d operators are replaced", replaced)
	}
}
