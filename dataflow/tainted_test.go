package dataflow

import (
	"clockwork/api"
	"clockwork/ast"
	"clockwork/parser"
	"clockwork/types"
	"fmt"
	"slices"
	"strings"
	"testing"
)

func TestP14_1Examples(t *testing.T) {
	checkBody(t, `let x = getint("k"); let y = 1; if x > 0 { y = 2; }`, "x y", false, true)
	checkBody(t, `let k = getstr("a"); put k = 1;`, "k", true, false)
	checkBody(t, "let x = getint(s); put s = x;", "x", false, false)
	checkBody(t, "", "", false, false)
}

// sources are expressions of the type int, and whether they are tainted in a procedure whose parameter s is.
func sources() map[string]bool {
	return map[string]bool{
		"1": false, "n": false, "-n": false, `len("getint(s)")`: false, "len(text(n))": false, "now()": false, "random() + node()": false, "n * 2 - 25": false,
		`getint("k")`: true, `len(getstr("k"))`: true, "len(s)": true, `len("a" ++ s)`: true, "2 * (n - len(s))": true, `getint("k") % 5`: true, "-getint(text(3))": true,
	}
}

// places are statements with an expression E, and the results if it is tainted: the variables, and whether keys and branches are.
func places() map[string]results {
	return map[string]results{
		"let v = E;":                              {tainted: "v"},
		"let v = text(E);":                        {tainted: "v"},
		"let v = E == 1;":                         {tainted: "v"},
		"n = E;":                                  {tainted: "n"},
		"let v = 1; v = E;":                       {tainted: "v"},
		"let v = E; v = 1;":                       {tainted: "v"},
		"let v = 1 == 1; let w = v; v = E > 0;":   {tainted: "v w"},
		"let v = n; n = E; emit v;":               {tainted: "n v"},
		`put "k" = E;`:                            {},
		`put "k" = text(E); let v = getint("k");`: {tainted: "v"},
		"emit E;":                                 {},
		"emit text(E); let v = n;":                {},
		"put text(E) = 1;":                        {keys: true},
		"delete text(E);":                         {keys: true},
		"emit getint(text(E));":                   {keys: true},
		"if E == 1 {}":                            {control: true},
		"for i = E to n max 2 {}":                 {tainted: "i", control: true},
		"for i = n to E max 2 {}":                 {tainted: "i", control: true},

		"let z = 1; let v = z; let a = v; z = E; let y = 3;":                             {tainted: "z v a"},
		"if E == 1 { n = 2; } else { let v = 3; }":                                       {tainted: "n v", control: true},
		"if E == 1 { emit n; } else { abort 1; }":                                        {control: true},
		`if n == 1 {} if E == 1 {} let v = 1; put "k" = v;`:                              {control: true},
		"let v = E; let b = v == 1; if b { if n == 1 {} }":                               {tainted: "v b", control: true},
		"let v = E; if n == 1 { put text(v) = v; }":                                      {tainted: "v", keys: true},
		"let v = 1; if v == E { v = 2; } delete text(v);":                                {tainted: "v", keys: true, control: true},
		"for i = 0 to E max 2 { n = i; let v = 1; }":                                     {tainted: "n i v", control: true},
		"for i = E to 1 max 2 { put text(i) = 1; }":                                      {tainted: "i", keys: true, control: true},
		"for i = 0 to n max 2 { n = E; let v = 1; }":                                     {tainted: "n i v", control: true},
		"for i = 0 to n max 2 { emit E; } let v = n;":                                    {},
		"let v = 1; for i = 0 to n max 2 { v = v + E; n = i; }":                          {tainted: "v"},
		"let v = 0; for i = 0 to v max 2 { let w = i; if w == 1 { v = E; } }":            {tainted: "v i w", control: true},
		"if E == 1 { if 1 == 2 {} else { for i = 0 to 1 max 1 { n = 1; } } let v = 1; }": {tainted: "n i v", control: true},
		"for i = 0 to E max 1 { for j = 0 to 1 max 1 { if 1 == 2 { let v = 1; } } }":     {tainted: "i j v", control: true},
	}
}

// TestP14_1Places has each expression in each place of statements, alone and inside of others, in front of what taints it and behind.
func TestP14_1Places(t *testing.T) {
	outers := []string{"Y", "if 1 == 2 {Y}", "if 1 == 2 {} else {Y}", "for u = 0 to 2 max 3 {Y}", "emit 1; for u = 2 to 0 max 3 { if u == 1 { abort 1; } else { if 1 == 1 {Y} } } delete text(3);"}
	for source, isTainted := range sources() {
		for form, want := range places() {
			if !isTainted {
				// The form may read the state itself.
				tainted := ""
				if strings.Contains(form, "let v = getint") {
					tainted = "v"
				}
				want = results{tainted: tainted}
			}
			tainted := strings.TrimSpace("s " + want.tainted)
			body := strings.ReplaceAll(form, "E", "("+source+")")
			for _, outer := range outers {
				body := strings.ReplaceAll(outer, "Y", body)
				checkBody(t, body+`s = getstr("k");`, tainted, want.keys, want.control)
				checkBody(t, `s = text(getint("k"));`+body, tainted, want.keys, want.control)
			}
		}
	}
}

// TestP14_1Operators has each reading operator, and tainted variables, as each operand of each operator.
func TestP14_1Operators(t *testing.T) {
	stored := func(op int) api.Expr { return api.Expr{Op: op, Args: []api.Expr{{Op: api.EStr, S: "k"}}} }
	variable := func(name string) api.Expr { return api.Expr{Op: api.EVar, S: name} }
	operands := []api.Expr{variable("n"), variable("s"), variable("b"), {Op: api.EInt, N: 22}, {Op: api.EStr, S: "has"}}
	clean := len(operands)
	operands = append(operands, stored(22), stored(23), stored(24), variable("x"), variable("y"), variable("z"))
	passed := map[int]int{}
	check := func(op int, isTainted bool, args ...api.Expr) {
		p := proc(t, `let x = getint("k"); let y = getstr("k"); let z = has("k"); let b = n == 1; let v = 1;`)
		p.Body[4].A = api.Expr{Op: op, Args: args}
		if types.Check(p) != api.OK {
			return
		}
		passed[op]++
		isReading := op == 22 || op == 23 || op == 24
		want := results{tainted: "x y z", keys: isReading && isTainted}
		if isTainted || isReading {
			want.tainted += " v"
		}
		want.independent = !want.keys
		checkProc(t, p, want)
	}
	for op := 4; op <= 27; op++ {
		check(op, false)
		for i, a := range operands {
			check(op, i >= clean, a)
			for j, b := range operands {
				check(op, i >= clean || j >= clean, a, b)
			}
		}
	}
	// An operator has operands of one type or more, 4 of the type int, 4 of the type str or 3 of the type bool; three operators have none.
	if len(passed) != 24 || passed[api.EAdd] != 16 || passed[api.EEq] != 16+16+9 || passed[api.EHas] != 4 || passed[api.ENow] != 1 {
		t.Errorf("the numbers of operands are %v", passed)
	}
}

// TestP14_1Order requires the order of ast.Names, whatever the names are, and whichever become tainted first.
func TestP14_1Order(t *testing.T) {
	checkBody(t, `let z = 1; let a = z; let m = 2; z = getint("k"); let b = a;`, "z a b", false, false)
	checkBody(t, `let z = 1; let a = z; let m = getint("k"); n = m; z = n; s = text(a);`, "s n z a m", false, false)
	checkBody(t, `let x = getint("k"); for z = 0 to x max 2 { let y = 1; if n == 1 { let a = 2; } else { let w = 3; let b = 4; } let c = 5; } n = x;`, "n x z y a w b c", false, true)
	p := proc(t, `let b = 1; c = b; a = getstr("k"); d = len(a); e = text(d); f = d;`)
	p.Params = nil
	for _, name := range []string{"f", "c", "e", "a", "n", "d"} {
		p.Params = append(p.Params, api.Param{Name: name, Type: api.TyInt})
	}
	p.Params[2].Type, p.Params[3].Type = api.TyStr, api.TyStr
	checkProc(t, p, results{"f e a d", false, false, true})
}

// TestP14_1Parameters requires that parameters are tainted only if they are assigned.
func TestP14_1Parameters(t *testing.T) {
	checkBody(t, "let x = getint(s); if x == n { put s = getstr(s); emit n; }", "x", false, true)
	checkBody(t, "if has(s) { n = 1; }", "n", false, true)
	checkBody(t, "if has(s) {} else { n = n; }", "n", false, true)
	checkBody(t, "n = n + 1; s = s ++ s;", "", false, false)
	checkBody(t, "s = getstr(s);", "s", true, false)
	checkBody(t, "n = getint(s); s = text(n); n = len(s);", "s n", true, false)
	for _, p := range randomProcs(5000) {
		var x parts
		x.add(p.Body, nil)
		for _, name := range Tainted(p) {
			if !slices.ContainsFunc(x.assignments, func(a assignment) bool { return a.name == name }) {
				t.Fatalf("%s is tainted and never assigned in\n%s", name, show(p))
			}
		}
	}
}

// links are statements in which the variable X becomes tainted if Y is, and whether a branch is, then. N stands for a number.
func links() map[string]bool {
	return map[string]bool{
		"X = Y;": false, "X = 1 + Y * n;": false, "X = len(text(Y));": false, "for iN = Y to 2 max 1 {} X = 1 - Y;": true,
		"if Y == 1 { X = 1; }": true, "if n == 1 {} else { if 1 == Y {} else { X = 0; } }": true,
		"for iN = Y to 1 max 1 { X = 1; }": true, "for iN = 0 to Y max 1 { if n == 1 { X = 1; } }": true,
	}
}

// chain returns a body with so many variables, each of which is tainted if the next one is, and the last one if the expression is. Its statements are in the order of the variables, or in the opposite one.
func chain(number int, link, last string, isForward bool) string {
	head := ""
	var l []string
	for i := range number {
		next := fmt.Sprintf("v%d", i+1)
		if i == number-1 {
			next = last
		}
		head += fmt.Sprintf("let v%d = 0;", i)
		l = append(l, strings.NewReplacer("X", fmt.Sprintf("v%d", i), "Y", next, "N", fmt.Sprint(i)).Replace(link))
	}
	if !isForward {
		slices.Reverse(l)
	}
	return head + strings.Join(l, "")
}

// TestP14_1Chains has variables that taint one another one by one, against the order of the statements and along it, up to as many as a procedure can have.
func TestP14_1Chains(t *testing.T) {
	for link, isBranch := range links() {
		number := 0
		for e := api.OK; e == api.OK; {
			number++
			_, _, e = parser.Proc("proc p(s: str, n: int) {" + chain(number+1, link, `getint("k")`, true) + "}")
			for _, isForward := range []bool{true, false} {
				p := proc(t, chain(number, link, `getint("k")`, isForward))
				checkProc(t, p, results{strings.Join(ast.Names(p)[2:], " "), false, isBranch, true})
				// Here, what begins the chain is not tainted.
				checkBody(t, chain(number, link, "n", isForward), "", false, false)
			}
		}
		if number < 30 || link == "X = Y;" && number != 99 {
			t.Errorf("the longest chain of %s has %d variables", link, number)
		}
	}
}

// TestP14_1Cut has chains in which one of the variables is not tainted by the next one.
func TestP14_1Cut(t *testing.T) {
	for _, isForward := range []bool{true, false} {
		whole := chain(20, "X = Y;", `getint("k")`, isForward)
		for cut := range 20 {
			var names []string
			for i := cut + 1; i < 20; i++ {
				names = append(names, fmt.Sprintf("v%d", i))
			}
			before, behind, _ := strings.Cut(whole, fmt.Sprintf("v%d = v", cut))
			if cut == 19 {
				before, behind, _ = strings.Cut(whole, `v19 = get`)
			}
			_, behind, _ = strings.Cut(behind, ";")
			checkBody(t, before+fmt.Sprintf("v%d = 5;", cut)+behind, strings.Join(names, " "), false, false)
		}
	}
}

// TestP14_1Smallest goes through all sets of variables: those that the rules allow contain the tainted ones, and these are such a set.
func TestP14_1Smallest(t *testing.T) {
	count := 0
	for _, p := range randomProcs(8000) {
		names := ast.Names(p)
		if types.Check(p) != api.OK || len(names) > 10 {
			continue
		}
		var x parts
		x.add(p.Body, nil)
		smallest := uint(1)<<len(names) - 1
		for set := range uint(1) << len(names) {
			if x.allows(set, names) {
				smallest &= set
			}
		}
		if !x.allows(smallest, names) {
			t.Fatalf("there is no smallest set of\n%s", show(p))
		}
		var want []string
		for i, name := range names {
			if smallest>>i&1 == 1 {
				want = append(want, name)
			}
		}
		if got := Tainted(p); !slices.Equal(got, want) {
			t.Fatalf("Tainted = %v, want %v, of\n%s", got, want, show(p))
		}
		if len(want) > 0 && len(want) < len(names) {
			count++
		}
	}
	if count < 1000 {
		t.Errorf("%d procedures have some tainted variables", count)
	}
}

// allows tells whether each assignment that must taint its variable has one of the set, in which the bits stand for the names.
func (x *parts) allows(set uint, names []string) bool {
	has := func(name string) bool { return set>>slices.Index(names, name)&1 == 1 }
	taints := func(e api.Expr) bool {
		return e.Op == 22 || e.Op == 23 || e.Op == 24 || e.Op == api.EVar && has(e.S)
	}
	for _, a := range x.assignments {
		if slices.ContainsFunc(nodesOf(a.from...), taints) && !has(a.name) {
			return false
		}
	}
	return true
}
