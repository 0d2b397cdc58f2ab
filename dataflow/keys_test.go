package dataflow

import (
	"strings"
	"testing"
)

func TestP14_2Examples(t *testing.T) {
	checkBody(t, `let x = getint("k"); let y = 1; if x > 0 { y = 2; } put text(y) = 1;`, "x y", true, true)
	checkBody(t, `let k = getstr("a"); delete k;`, "k", true, false)
	checkBody(t, "let x = getint(s); put s = x; emit x; delete s;", "x", false, false)
	checkBody(t, "put text(now()) = random(); if node() == 1 {} for i = now() to random() max 1 { delete text(i); }", "", false, false)
}

// keyTexts are expressions of the type str, and whether they are tainted behind a declaration of x and k.
func keyTexts() map[string]bool {
	return map[string]bool{
		`"k"`: false, "s": false, `s ++ "k"`: false, "text(n)": false, `text(len(s) - n) ++ s`: false, `"getstr(k)"`: false,
		"k": true, "text(x)": true, `s ++ ("/" ++ k)`: true, "k ++ s": true, `getstr("a")`: true, "getstr(s)": true, `text(getint("a"))`: true, `text(1 - getint("a"))`: true, `text(len(getstr("a")))`: true,
	}
}

// place is a statement with an expression, and the results if it is tainted, besides the variables x and k.
type place struct {
	form string
	want results
}

// intPlaces are those of an expression I of the type int.
func intPlaces() []place {
	return []place{
		{"let v = I;", results{tainted: "v"}},
		{"let v = 1; v = I;", results{tainted: "v"}},
		{"let v = I > 2;", results{tainted: "v"}},
		{`put "k" = I;`, results{}},
		{`put "k" = text(n + I);`, results{}},
		{"emit I;", results{}},
		{"emit text(I);", results{}},
		{"put text(I) = 1;", results{keys: true}},
		{`put "b" ++ text(I) = "a";`, results{keys: true}},
		{"delete text(I);", results{keys: true}},
		{"emit getint(text(I));", results{keys: true}},
		{`put "k" = getstr(text(-I));`, results{keys: true}},
		{"let v = has(text(I));", results{tainted: "v", keys: true}},
		{"if I == 1 {}", results{control: true}},
		{"if 1 < 2 or not I <= 1 { abort 3; } else { emit 4; }", results{control: true}},
		{"if 1 < I { put s = 2; delete s; }", results{control: true}},
		{"for v = I to 1 max 1 {}", results{tainted: "v", control: true}},
		{"for v = 1 to n - I max 1 {}", results{tainted: "v", control: true}},
		{"for v = I to I max 1 { delete s; }", results{tainted: "v", control: true}},
		{"for v = 0 to 9 max 9 { emit I; }", results{}},
	}
}

// boolPlaces are those of an expression B of the type bool.
func boolPlaces() []place {
	return []place{
		{"let v = B;", results{tainted: "v"}},
		{"let v = 1 == 1; v = B;", results{tainted: "v"}},
		{"if B {}", results{control: true}},
		{"if not B { put s = 1; } else { delete s; }", results{control: true}},
		{"let v = B; if 1 == 2 and v {}", results{tainted: "v", control: true}},
	}
}

// nestings returns the text inside of no other statement, and inside of others of each kind.
func nestings(text string) []string {
	return []string{text, "if 1 == 1 {" + text + "}", "if 1 == 1 { emit 1; } else { emit 2; " + text + "}", "for u = 1 to 3 max 2 {" + text + "}", "for u = n to 3 max 2 { abort 1; if u == n {} else {" + text + "} emit 3; }"}
}

// checkNested requires the results of the statements, wherever they are, together with the tainted variables x and k, which are assigned in front of them or behind.
func checkNested(t *testing.T, text string, want results) {
	t.Helper()
	tainted := strings.TrimSpace("x k " + want.tainted)
	for _, body := range nestings(text) {
		checkBody(t, `let x = getint("a"); let k = getstr("a");`+body, tainted, want.keys, want.control)
		checkBody(t, `let x = 1; let k = "a";`+body+`x = getint("a"); k = getstr("a");`, tainted, want.keys, want.control)
	}
}

// TestP14_2Values has expressions that are tainted or not, and contain no key that is tainted, in each place.
func TestP14_2Values(t *testing.T) {
	for _, x := range intPlaces() {
		for _, e := range []string{"x", "len(k)", "(2 + x * n)", `getint("a")`, "getint(s)", `len(s ++ getstr("a" ++ s))`, "getint(text(n - 1))"} {
			checkNested(t, strings.ReplaceAll(x.form, "I", e), x.want)
		}
		// A form that reads the state taints its own variable.
		want := results{}
		if strings.Contains(x.form, "let v = has") {
			want.tainted = "v"
		}
		for _, e := range []string{"1", "n", "len(s)", "(2 - n * 3)", "now()", `len("getint(x)")`} {
			checkNested(t, strings.ReplaceAll(x.form, "I", e), want)
		}
	}
	for _, x := range boolPlaces() {
		for _, e := range []string{"(x == 1)", `(s < k)`, "has(s)", `has("a" ++ text(n))`, "(n == 1 and has(s))", "(not has(s) == (1 == 2))"} {
			checkNested(t, strings.ReplaceAll(x.form, "B", e), x.want)
		}
		for _, e := range []string{"(n == 1)", `(s >= "has(s)")`, "(1 < 2 or not s == s)"} {
			checkNested(t, strings.ReplaceAll(x.form, "B", e), results{})
		}
	}
}

// TestP14_2Operands has reading operators with tainted operands and with others in each place.
func TestP14_2Operands(t *testing.T) {
	for key, isTainted := range keyTexts() {
		for _, x := range intPlaces() {
			for _, e := range []string{"getint(K)", "len(getstr(K))", "(-n + getint(K) % 3)", `len("a" ++ getstr(K))`} {
				want := x.want
				want.keys = want.keys || isTainted
				checkNested(t, strings.ReplaceAll(x.form, "I", strings.ReplaceAll(e, "K", key)), want)
			}
		}
		for _, x := range boolPlaces() {
			for _, e := range []string{"has(K)", "(not (n == 1 or has(K)))", "(getint(K) < 3)", "(s != getstr(K))", "(has(K) == (n == 1))"} {
				want := x.want
				want.keys = want.keys || isTainted
				checkNested(t, strings.ReplaceAll(x.form, "B", strings.ReplaceAll(e, "K", key)), want)
			}
		}
		for _, form := range []string{"put K = 1;", "put K = s;", "put K = K;", "delete K;"} {
			checkNested(t, strings.ReplaceAll(form, "K", key), results{keys: isTainted})
		}
	}
}

// TestP14_2Reads has reading operators inside of the operands of others.
func TestP14_2Reads(t *testing.T) {
	for _, outer := range []string{"getint(K)", "len(getstr(K))", "getint(s ++ K)"} {
		for _, inner := range []string{`getstr("a")`, "getstr(s)", "text(getint(s))", `("a" ++ getstr(s ++ s))`, "text(len(getstr(s)))", `getstr(getstr("a"))`} {
			e := strings.ReplaceAll(outer, "K", inner)
			checkBody(t, "emit "+e+";", "", true, false)
			checkBody(t, "emit 1 + ("+e+" - n);", "", true, false)
			checkBody(t, "if 2 < "+e+" {}", "", true, true)
			checkBody(t, "let v = s; let w = "+e+";", "w", true, false)
		}
		checkBody(t, "emit "+strings.ReplaceAll(outer, "K", "s")+";", "", false, false)
	}
	// Reading in two operands is no reading at a tainted key.
	checkBody(t, `let v = getint("a") + getint("b") * len(getstr("c"));`, "v", false, false)
	checkBody(t, "put s = getstr(s) ++ getstr(text(n));", "", false, false)
}

// bodyOf returns a body with the operand in each of its places, except one with another operand.
func bodyOf(operand string, place int, other string) string {
	src := "let a = E; put text(E) = E; delete text(E); if E == 0 { emit E; for i = E to E max 2 { let b = E; put text(E) = E; } let c = E; } else { emit E; if 1 == E { delete text(E); } else { let d = E; } } emit E;"
	for i := range strings.Count(src, "E") {
		text := operand
		if i == place {
			text = other
		}
		src = strings.Replace(src, "E", text, 1)
	}
	return src
}

// TestP14_2OnePlace has a tainted expression in one place of a body, and no other one.
func TestP14_2OnePlace(t *testing.T) {
	want := []results{
		{tainted: "a"}, {keys: true}, {}, {keys: true},
		{tainted: "i b c d", control: true}, {}, {tainted: "i b", control: true}, {tainted: "i b", control: true}, {tainted: "b"}, {keys: true}, {},
		{tainted: "c"}, {}, {tainted: "d", control: true}, {keys: true}, {tainted: "d"}, {},
	}
	for _, operand := range []string{"1", "n", "len(s)", "(n * 3 - len(text(n)))"} {
		checkBody(t, bodyOf(operand, -1, ""), "", false, false)
		for i, x := range want {
			for _, other := range []string{`getint("k")`, "getint(s)", "len(getstr(text(n)))", "(n - getint(s))"} {
				checkBody(t, bodyOf(operand, i, other), x.tainted, x.keys, x.control)
				checkBody(t, `emit 3; let e = s; put "a" = e;`+bodyOf(operand, i, other)+`abort 4;`, x.tainted, x.keys, x.control)
			}
			// The operand is a tainted key itself.
			checkBody(t, bodyOf(operand, i, "getint(getstr(s))"), x.tainted, true, x.control)
		}
	}
	if last := len(want); bodyOf("1", last, "n") != bodyOf("1", -1, "") || bodyOf("1", last-1, "n") == bodyOf("1", -1, "") {
		t.Errorf("the body has not %d places", last)
	}
}
