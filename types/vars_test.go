package types

import (
	"clockwork/api"
	"clockwork/ast"
	"fmt"
	"slices"
	"strings"
	"testing"
)

// checkVars requires the result of Vars, written as the types of the names.
func checkVars(t *testing.T, p api.Proc, want string) {
	t.Helper()
	var names []string
	for _, x := range Vars(p) {
		names = append(names, x.Name+": "+typeNames[x.Type])
	}
	if got := strings.Join(names, ", "); got != want {
		t.Fatalf("Vars = %q, want %q, of\n%s", got, want, show(p))
	}
}

func TestP11_3Examples(t *testing.T) {
	checkVars(t, proc(t, ""), "n: int, s: str")
	checkVars(t, procOf(t, "proc p() {}"), "")
	checkVars(t, procOf(t, "proc p(b: str, a: int, c: str) {}"), "b: str, a: int, c: str")
	checkVars(t, proc(t, `let c = has(s); let b = "x"; let a = 1; let d = b; let e = c; let f = a;`), "n: int, s: str, c: bool, b: str, a: int, d: str, e: bool, f: int")
	checkVars(t, proc(t, "for i = 0 to n max 1 { let x = i; for j = x to n max 1 { let y = s; } let z = s == text(x); } let w = 1;"), "n: int, s: str, i: int, x: int, j: int, y: str, z: bool, w: int")
	checkVars(t, proc(t, "if has(s) { let x = 1; let y = s; } else { let z = text(n); if z == s { let v = z; } let w = z; } let u = 1 < 2;"), "n: int, s: str, x: int, y: str, z: str, v: str, w: str, u: bool")
	checkVars(t, proc(t, "n = 1; s = text(n); put s = n; emit n; delete s; abort 1;"), "n: int, s: str")
}

// TestP11_3Types declares variables by all expressions.
func TestP11_3Types(t *testing.T) {
	for src, ty := range map[string]string{
		"1": "int", `"1"`: "str", "now()": "int", "random()": "int", "node()": "int", "n": "int", "s": "str", "x": "bool", "n + n": "int", "-n": "int", "s ++ s": "str", "text(n)": "str", "len(s)": "int", "getint(s)": "int", "getstr(s)": "str", "has(s)": "bool",
		"n == n": "bool", "s != s": "bool", "x == x": "bool", "n < n": "bool", "s >= s": "bool", "x and x": "bool", "x or x": "bool", "not x": "bool",
	} {
		for slot := range slots {
			p := proc(t, "let x = 1 == 2;"+inSlots(map[int]string{slot: "let v = " + src + ";"}))
			want := "n: int, s: str, x: bool, i: int, j: int, v: " + ty
			if slot < 6 {
				want = "n: int, s: str, x: bool, v: " + ty + ", i: int, j: int"
			} else if slot == 6 {
				want = "n: int, s: str, x: bool, i: int, v: " + ty + ", j: int"
			}
			checkVars(t, p, want)
		}
	}
}

// TestP11_3Errors has procedures that do not pass Check.
func TestP11_3Errors(t *testing.T) {
	for slot := range slots {
		for _, s := range []string{"emit x;", "x = 1;", "n = s;", "i = 1;", "j = 1;", "let n = 1;", "if n {}", "for k = 0 to s max 1 {}", "for i = 0 to 1 max 1 {}", "let y = 1; let y = 2;", "let y = -s;", "emit has(s);"} {
			checkVars(t, proc(t, inSlots(map[int]string{slot: s})), "")
		}
	}
	checkVars(t, procOf(t, "proc p(n: int, b: bool) { let x = 1; }"), "")
	for _, p := range []api.Proc{{}, {Name: "if"}, {Name: "p", Params: make([]api.Param, 1)}, {Name: "p", Params: []api.Param{param("a", 1), param("a", 2)}}, {Name: "p", Params: []api.Param{param("a", 1)}, Body: make([]api.Stmt, 1)}} {
		if l := Vars(p); l != nil {
			t.Errorf("Vars(%+v) = %+v", p, l)
		}
	}
	p := proc(t, "")
	for i := range mostNodes {
		p.Body = append(p.Body, api.Stmt{Op: api.SAbort, Max: i})
	}
	checkVars(t, p, "n: int, s: str")
	p.Body = append(p.Body, api.Stmt{Op: api.SAbort})
	checkVars(t, p, "")
}

// TestP11_3Many has as many variables as possible.
func TestP11_3Many(t *testing.T) {
	p := procOf(t, "proc p(a: int, b: str, c: int, d: str, e: int, f: str) {}")
	want := slices.Clone(p.Params)
	for i := range mostNodes / 2 {
		name := fmt.Sprintf("v%d", i)
		e := expr(t, []string{"n", "1", `"1"`, "now()"}[i%4])
		if e.Op == api.EVar {
			e.S = "a"
		}
		p.Body = append(p.Body, api.Stmt{Op: api.SLet, Name: name, A: e})
		want = append(want, param(name, []int{1, 1, 2, 1}[i%4]))
	}
	if got := Vars(p); !slices.Equal(got, want) {
		t.Errorf("Vars = %+v", got)
	}
}

// TestP11_3Names requires the order of ast.Names, and that each variable has the type that Of has for it with all of them.
func TestP11_3Names(t *testing.T) {
	for _, p := range randomProcs(3000) {
		vars := Vars(p)
		if (vars == nil) != (Check(p) != api.OK || len(ast.Names(p)) == 0) {
			t.Fatalf("Vars = %+v, Check = %d, of\n%s", vars, Check(p), show(p))
		}
		if vars == nil {
			continue
		}
		var names []string
		for _, x := range vars {
			names = append(names, x.Name)
			checkOf(t, api.Expr{Op: api.EVar, S: x.Name}, vars, x.Type, api.OK)
		}
		if !slices.Equal(names, ast.Names(p)) {
			t.Fatalf("Vars = %+v, Names = %q", vars, ast.Names(p))
		}
	}
}
