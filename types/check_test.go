package types

import (
	"clockwork/api"
	"fmt"
	"slices"
	"strings"
	"testing"
)

func TestP11_2Examples(t *testing.T) {
	checkBody(t, `if has("k") { let x = 1; } emit x;`, api.ErrUnassigned)
	checkBody(t, "for i = 0 to 2 max 2 { i = 1; }", api.ErrName)
	checkBody(t, "", api.OK)
	checkBody(t, "let x = n; for i = 0 to n max 4 { x = x + i; } if x > 1 { emit x; } else { abort 3; } put s = x; delete s;", api.OK)
	checkProc(t, procOf(t, "proc add(k: str, n: int) { put k = getint(k) + n; emit getint(k); }"), api.OK)
	checkProc(t, procOf(t, "proc p() {}"), api.OK)
	checkProc(t, api.Proc{}, api.ErrName)
}

// TestP11_2Validate has errors of ast.Validate beside all other ones.
func TestP11_2Validate(t *testing.T) {
	for _, body := range []string{"", "emit 1;", "emit x;", "let n = 1;", "emit -s;", "for i = 0 to 1 max 1 { i = 1; } let i = 1;"} {
		for _, params := range []string{"n: int, s: str", "b: bool, s: str"} {
			p := procOf(t, "proc p("+params+") {"+body+"}")
			for want, change := range map[api.Errno]func(p *api.Proc){
				api.ErrName:      func(p *api.Proc) { p.Name = "if" },
				api.ErrType:      func(p *api.Proc) { p.Params[0].Type = 4 },
				api.ErrDuplicate: func(p *api.Proc) { p.Params[1].Name = p.Params[0].Name },
				api.ErrArg:       func(p *api.Proc) { p.Body = append(p.Body, api.Stmt{Op: api.SAbort, Max: 1000}) },
				api.ErrLimit:     func(p *api.Proc) { p.Body = append(p.Body, make([]api.Stmt, mostNodes+1)...); clearTo(p.Body, 1) },
			} {
				q := api.Proc{Name: p.Name, Params: append([]api.Param{}, p.Params...), Body: append([]api.Stmt{}, p.Body...)}
				change(&q)
				checkProc(t, q, want)
			}
		}
	}
	for e, want := range invalid() {
		for _, before := range []string{"", "emit x;", "let n = 1;", "emit -s;"} {
			for _, s := range []api.Stmt{{Op: api.SLet, Name: "y", A: *e}, {Op: api.SEmit, A: *e}, {Op: api.SIf, A: *e}, {Op: api.SPut, A: api.Expr{Op: api.EInt}, B: *e}} {
				p := proc(t, before)
				p.Body = append(p.Body, s)
				checkProc(t, p, want)
			}
		}
	}
	for op := -3; op <= 12; op++ {
		want, known := map[int]api.Errno{api.SLet: api.ErrName, api.SSet: api.ErrName, api.SDelete: api.OK, api.SIf: api.ErrType, api.SEmit: api.OK}[op]
		if !known {
			want = api.ErrArg
		}
		p := proc(t, "")
		p.Body = []api.Stmt{{Op: op, A: api.Expr{Op: api.EVar, S: "s"}}}
		checkProc(t, p, want)
	}
}

// clearTo makes statements that abort with the code of those that are zero.
func clearTo(l []api.Stmt, code int) {
	for i := range l {
		if l[i].Op == 0 {
			l[i] = api.Stmt{Op: api.SAbort, Max: code}
		}
	}
}

// TestP11_2Params has parameters of all types, in all numbers and places.
func TestP11_2Params(t *testing.T) {
	for number := range mostParams + 1 {
		for types := range 1 << (2 * number) {
			p := api.Proc{Name: "p"}
			want := api.OK
			for i := range number {
				ty := types >> (2 * i) % 4
				p.Params = append(p.Params, param(letters[i:i+1], ty))
				if ty == 0 || ty == 3 {
					want = api.ErrType
				}
			}
			checkProc(t, p, want)
		}
	}
	// An error of a parameter comes before those of names and statements, but not before those of ast.Validate.
	for body, want := range map[string]api.Errno{"emit x;": api.ErrType, "let b = 1;": api.ErrType, "let x = 1; let x = 2;": api.ErrType, "let y = b; if b {}": api.ErrType, "b = has(s);": api.ErrType} {
		checkProc(t, procOf(t, "proc p(b: bool, s: str) {"+body+"}"), want)
		checkProc(t, procOf(t, "proc p(s: str, b: bool) {"+body+"}"), want)
	}
}

// TestP11_2Duplicates declares a name in two places, each as each kind of variable.
func TestP11_2Duplicates(t *testing.T) {
	declarations := []string{"let X = 1;", `let X = "a";`, "for X = 0 to 1 max 1 {}", "for X = 0 to n max 2 { emit X; }", "let X = has(s);"}
	for a := range slots {
		for b := range slots {
			for _, first := range declarations {
				for _, second := range declarations {
					texts := map[int]string{a: strings.ReplaceAll(first, "X", "x")}
					texts[b] += strings.ReplaceAll(second, "X", "x")
					checkBody(t, inSlots(texts), api.ErrDuplicate)
				}
			}
		}
		for _, declaration := range declarations {
			for name, want := range map[string]api.Errno{"n": api.ErrDuplicate, "s": api.ErrDuplicate, "i": api.ErrDuplicate, "j": api.ErrDuplicate, "x": api.OK, "k": api.OK, "p": api.OK} {
				once := strings.ReplaceAll(declaration, "X", name)
				checkBody(t, inSlots(map[int]string{a: once}), want)
				checkBody(t, inSlots(map[int]string{a: "for " + name + " = 0 to 1 max 1 {" + once + "}"}), api.ErrDuplicate)
				checkBody(t, inSlots(map[int]string{a: "for " + name + " = 0 to 1 max 1 { if has(s) {} else {" + once + "} }"}), api.ErrDuplicate)
			}
		}
	}
	// It comes before the errors of all statements.
	for _, body := range []string{"emit x; let x = 1; let x = 2;", "emit -s; let n = 1;", "emit has(s); let x = 1; if n {} let x = y;", "for i = s to n max 1 { i = 1; } let i = s + y;", "s = 1; for s = 0 to 1 max 1 {}"} {
		checkBody(t, body, api.ErrDuplicate)
	}
	checkProc(t, procOf(t, "proc p(a: int, b: str, c: int) { let d = 1; let e = 1; let f = 1; let d = 1; }"), api.ErrDuplicate)
	checkProc(t, procOf(t, "proc p(a: int, b: str, c: int) { let d = 1; let c = 1; }"), api.ErrDuplicate)
	// Assignments declare nothing, and names of procedures are others.
	checkProc(t, procOf(t, "proc p(a: int) { let p = 1; p = 2; p = 3; a = 1; a = 2; }"), api.OK)
}

const slots = 10

// inSlots returns statements with the texts in the slots, which are numbered in preorder.
func inSlots(texts map[int]string) string {
	src := "S0 if has(s) { S1 if has(s) { S2 } else { S3 } S4 } else { S5 } for i = 0 to n max 2 { S6 for j = i to i + 1 max 2 { S7 } S8 } S9"
	for slot := range slots {
		src = strings.Replace(src, fmt.Sprintf("S%d", slot), texts[slot], 1)
	}
	return src
}

// visibleIn lists, for each slot, those in which a variable is visible that is declared in it by a let statement.
func visibleIn() []string {
	return []string{"123456789", "234", "", "", "", "", "78", "", "", ""}
}

// TestP11_2Scopes declares a variable in one place and uses it in another one.
func TestP11_2Scopes(t *testing.T) {
	uses := []string{"emit x;", "x = 2;", "x = x + 1;", "put s = x;", "put text(x) = 1;", "delete text(x);", "if x > 0 {}", "if has(s) { emit x; }", "if has(s) {} else { emit x; }", "for k = x to 1 max 1 {}", "for k = 0 to x max 1 {}", "for k = 0 to 1 max 1 { emit x; }", "let y = x;", "for k = 0 to 1 max 1 { if has(s) { x = k; } }"}
	for a, slotsOf := range visibleIn() {
		for b := range slots {
			want := api.ErrUnassigned
			if strings.Contains(slotsOf, fmt.Sprint(b)) {
				want = api.OK
			}
			for _, use := range uses {
				if a != b {
					checkBody(t, inSlots(map[int]string{a: "let x = 1;", b: use}), want)
				}
				checkBody(t, inSlots(map[int]string{b: use}), api.ErrUnassigned)
				checkBody(t, inSlots(map[int]string{b: use + "let x = 1;"}), api.ErrUnassigned)
				checkBody(t, inSlots(map[int]string{b: "let x = 1;" + use}), api.OK)
				checkBody(t, inSlots(map[int]string{b: "if has(s) { let x = 1; }" + use}), api.ErrUnassigned)
				checkBody(t, inSlots(map[int]string{b: "if has(s) { let x = 1; } else {" + use + "}"}), api.ErrUnassigned)
				checkBody(t, inSlots(map[int]string{b: "for x = 0 to 1 max 1 {}" + use}), api.ErrUnassigned)
			}
		}
	}
	checkBody(t, "let x = x;", api.ErrUnassigned)
	checkBody(t, "let x = 1; let y = x; let z = x + y; emit z;", api.OK)
	checkBody(t, "let x = y; let y = 1;", api.ErrUnassigned)
}

// TestP11_2Loops uses the loop variables i and j of the slots in all places.
func TestP11_2Loops(t *testing.T) {
	for name, visible := range map[string]string{"i": "678", "j": "7"} {
		for slot := range slots {
			isVisible := strings.Contains(visible, fmt.Sprint(slot))
			used, assigned := api.ErrUnassigned, api.ErrUnassigned
			if isVisible {
				used, assigned = api.OK, api.ErrName
			}
			for _, use := range []string{"emit X;", "put s = X;", "if X == 0 {}", "let y = X + 1;", "let y = 0; y = X;", "for k = X to X max 2 { if has(s) { emit X; } }"} {
				checkBody(t, inSlots(map[int]string{slot: strings.ReplaceAll(use, "X", name)}), used)
			}
			for _, assign := range []string{"X = 1;", "X = s;", "X = has(s);", "if has(s) { X = 1; }", "for k = 0 to 1 max 1 { X = k; }", "let y = 1; X = y;"} {
				checkBody(t, inSlots(map[int]string{slot: strings.ReplaceAll(assign, "X", name)}), assigned)
			}
			for assign, e := range map[string]api.Errno{"X = y;": api.ErrUnassigned, "X = -s;": api.ErrType, "X = s + y;": api.ErrUnassigned} {
				checkBody(t, inSlots(map[int]string{slot: strings.ReplaceAll(assign, "X", name)}), e)
			}
		}
	}
	// The bounds do not see the loop variable.
	checkBody(t, "for i = i to 1 max 1 {}", api.ErrUnassigned)
	checkBody(t, "for i = 0 to i max 1 {}", api.ErrUnassigned)
	checkBody(t, "for i = 0 to 1 max 1 { for j = i to 1 max 1 { for k = i + j to 2 max 1 { emit i + j + k; } } }", api.OK)
	checkBody(t, "for i = 0 to 1 max 1 { for j = j to 1 max 1 {} }", api.ErrUnassigned)
	checkBody(t, "for i = 0 to 1 max 1 { for j = 0 to 1 max 1 {} emit j; }", api.ErrUnassigned)
	checkBody(t, "for i = 0 to 1 max 1 {} for j = 0 to i max 1 {}", api.ErrUnassigned)
	checkBody(t, "for i = 0 to 1 max 1 {} for j = 0 to 1 max 1 { i = 1; }", api.ErrUnassigned)
	// It is an int.
	checkBody(t, "for i = 0 to 1 max 1 { delete i; }", api.ErrType)
	checkBody(t, "for i = 0 to 1 max 1 { if i {} }", api.ErrType)
	checkBody(t, "for i = 0 to 1 max 1 { delete text(i); }", api.OK)
	// What is declared in the body is not visible in its next iteration.
	checkBody(t, "for i = 0 to 2 max 2 { if i > 0 { emit x; } let x = 1; }", api.ErrUnassigned)
	checkBody(t, "for i = 0 to 2 max 2 { let x = 1; x = x + i; } n = 1;", api.OK)
}

// TestP11_2Statements gives each kind of statement expressions of all types.
func TestP11_2Statements(t *testing.T) {
	types := []string{"int", "str", "bool"}
	exprs := map[string][]string{"int": {"1", "n", "getint(s)"}, "str": {`"a"`, "s", "text(n)"}, "bool": {"has(s)", "n == 1", "not has(s)"}}
	for form, fits := range map[string]string{ // the types that A and B may have
		"let x = A;": "int/str/bool", "n = A;": "int", "s = A;": "str", "let x = has(s); x = A;": "bool", "let x = 1; x = A;": "int", "let x = s; x = A;": "str",
		"delete A;": "str", "emit A;": "int/str", "if A {}": "bool", "if A { emit 1; } else { emit 2; }": "bool",
		"put A = 1;": "str", "put s = A;": "int/str", "for k = A to n max 2 {}": "int", "for k = 1 to A max 2 { emit k; }": "int",
		"put A = B;": "str int/str str", "for k = A to B max 2 {}": "int int",
	} {
		for _, a := range types {
			for j, b := range types {
				pair := a + " " + b
				if !strings.Contains(form, "B") {
					pair = a
				}
				want := api.ErrType
				if slices.Contains(strings.Split(fits, "/"), pair) {
					want = api.OK
				}
				for i := range 3 {
					s := strings.NewReplacer("A", exprs[a][i], "B", exprs[b][(i+j)%3]).Replace(form)
					for slot := range slots {
						checkBody(t, inSlots(map[int]string{slot: s}), want)
					}
				}
			}
		}
	}
	checkBody(t, "abort 0; abort 999;", api.OK)
}

// TestP11_2FirstOfStatement has statements with several errors.
func TestP11_2FirstOfStatement(t *testing.T) {
	for s, want := range map[string]api.Errno{
		"put x = -s;": api.ErrUnassigned, "put -s = x;": api.ErrType, "put n = x;": api.ErrUnassigned, "put x = has(s);": api.ErrUnassigned, "put n = -s;": api.ErrType, "put n = has(s);": api.ErrType, "put has(s) = x;": api.ErrUnassigned,
		"for k = x to -s max 1 {}": api.ErrUnassigned, "for k = -s to x max 1 {}": api.ErrType, "for k = s to x max 1 {}": api.ErrUnassigned, "for k = x to s max 1 {}": api.ErrUnassigned, "for k = s to 1 max 1 { emit x; }": api.ErrType, "for k = 0 to s max 1 { k = 1; }": api.ErrType, "for k = 0 to x max 1 { k = 1; }": api.ErrUnassigned, "for k = -s to 1 max 1 { emit x; }": api.ErrType,
		"if n { emit x; }": api.ErrType, "if x { emit -s; }": api.ErrUnassigned, "if -s { emit x; }": api.ErrType, "if has(s) { emit x; } else { emit -s; }": api.ErrUnassigned, "if has(s) { emit -s; } else { emit x; }": api.ErrType, "if n {} else { emit x; }": api.ErrType, "if s { for k = 0 to 1 max 1 { k = 1; } }": api.ErrType,
		"y = x;": api.ErrUnassigned, "y = -s;": api.ErrType, "y = s;": api.ErrUnassigned, "n = x;": api.ErrUnassigned, "n = s;": api.ErrType, "s = n + s;": api.ErrType, "y = has(n);": api.ErrType, "n = s + x;": api.ErrUnassigned,
		"let y = -s + x;": api.ErrType, "let y = x + -s;": api.ErrUnassigned, "let y = y + -s;": api.ErrUnassigned, "delete n + x;": api.ErrUnassigned, "delete -s;": api.ErrType, "emit has(x);": api.ErrUnassigned, "emit has(n);": api.ErrType,
	} {
		for slot := range slots {
			checkBody(t, inSlots(map[int]string{slot: s}), want)
		}
	}
}

// TestP11_2FirstError has an error in each of two places.
func TestP11_2FirstError(t *testing.T) {
	wrong := map[api.Errno][]string{
		api.ErrUnassigned: {"emit x;", "x = 1;", "let y = x;", "put s = x;", "if x {}", "for k = 0 to x max 1 {}"},
		api.ErrType:       {"emit -s;", "n = s;", "let y = -s;", "put n = 1;", "if n {}", "for k = 0 to s max 1 {}", "delete n;"},
		api.ErrName:       {"for k = 0 to 1 max 1 { k = 1; }", "for k = 0 to 1 max 1 { k = s; }"},
	}
	for e, firsts := range wrong {
		for _, seconds := range wrong {
			for i, first := range firsts {
				second := strings.NewReplacer("k", "l", "y", "z").Replace(seconds[i%len(seconds)])
				for a := range slots {
					checkBody(t, inSlots(map[int]string{a: first + second}), e)
					checkBody(t, inSlots(map[int]string{a: "n = 1;" + first}), e)
					for b := a + 1; b < slots; b++ {
						checkBody(t, inSlots(map[int]string{a: first, b: second}), e)
					}
				}
			}
		}
	}
}

// TestP11_2Nodes has procedures with as many nodes as they may have.
func TestP11_2Nodes(t *testing.T) {
	for statements := mostNodes/2 - 2; statements <= mostNodes/2+2; statements++ {
		body := func(use string) api.Proc {
			p := proc(t, "")
			for i := range statements - 1 {
				p.Body = append(p.Body, proc(t, fmt.Sprintf("let x%d = n;", i)).Body...)
			}
			p.Body = append(p.Body, proc(t, use).Body...)
			return p
		}
		for use, want := range map[string]api.Errno{"emit x0;": api.OK, "emit x99;": api.OK, "emit x;": api.ErrUnassigned, "s = x0;": api.ErrType, "let x0 = n;": api.ErrDuplicate, "let x99 = x;": api.ErrDuplicate} {
			if 2*statements > mostNodes {
				want = api.ErrLimit
			}
			checkProc(t, body(use), want)
		}
	}
}

// TestP11_2Depth has procedures that are nested as deeply as they may be.
func TestP11_2Depth(t *testing.T) {
	for depth := 1; depth <= mostDepth+1; depth++ {
		for _, nest := range []string{"if has(s) {}", "if has(s) {} else {}", "for iD = n to n max 3 { let xD = n; }"} {
			for use, want := range map[string]api.Errno{"emit n;": api.OK, "emit x1;": api.ErrUnassigned, "n = s;": api.ErrType, "emit x0; emit i0;": api.ErrUnassigned, "n = x0;": api.ErrUnassigned, "i0 = x0;": api.ErrUnassigned} {
				body := proc(t, use).Body
				for i := range depth - 1 {
					outer := proc(t, strings.ReplaceAll(nest, "D", fmt.Sprint(i))).Body
					if strings.HasSuffix(nest, "else {}") {
						outer[0].Else = body
					} else {
						outer[0].Body = append(outer[0].Body, body...)
					}
					body = outer
				}
				p := proc(t, "")
				p.Body = body
				checkProc(t, p, wantAt(depth, strings.HasPrefix(nest, "for"), use, want))
			}
		}
	}
}

// wantAt returns the error of a use at the depth, which is want without the variables of loops.
func wantAt(depth int, inLoops bool, use string, want api.Errno) api.Errno {
	declared := 0
	if inLoops {
		declared = depth - 1
	}
	switch {
	case depth > mostDepth:
		return api.ErrLimit
	case declared > 1 && use == "emit x1;", declared > 0 && strings.HasSuffix(use, "i0;"), declared > 0 && use == "n = x0;":
		return api.OK
	case declared > 0 && use == "i0 = x0;":
		return api.ErrName
	default:
		return want
	}
}
