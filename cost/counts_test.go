package cost

import (
	"clockwork/api"
	"clockwork/determinism"
	"fmt"
	"strings"
	"testing"
)

func TestP13_1Examples(t *testing.T) {
	checkBody(t, "for i = 0 to n max 3 { put k = getint(k) + 1; }", amounts{7, 3, 3, 0})
	checkBody(t, "if has(k) { emit 1; emit 2; } else { delete k; }", amounts{3, 1, 1, 2})
	fourLoops := "for a = 0 to n max 16 { for b = 0 to n max 16 { for c = 0 to n max 16 { for d = 0 to n max 16 {} } } }"
	checkProc(t, proc(t, fourLoops), amounts{16385, 0, 0, 0}, api.ErrFuel)
}

// ints are expressions of the type int, with the numbers of their nodes that read the state.
func ints() map[string]int64 {
	return map[string]int64{
		"1": 0, "n": 0, "-n": 0, "len(k)": 0, `len(text(n) ++ "getint(k) has(k)")`: 0,
		"getint(k)": 1, "len(getstr(k))": 1, `-getint("a")`: 1, "getint(k ++ text(n))": 1,
		"getint(k) + getint(k)": 2, "n * getint(k) - len(getstr(text(n)))": 2, "getint(getstr(k))": 2, "getint(text(getint(k)))": 2,
		"getint(getstr(getstr(k)) ++ getstr(k))": 4, "n % -getint(k) / (getint(k) + len(getstr(k ++ getstr(k))))": 4,
	}
}

// truths are the same of the type bool.
func truths() map[string]int64 {
	return map[string]int64{
		"n == 1": 0, "not n < 1": 0, `k >= "has(k)" and n != 0`: 0,
		"has(k)": 1, "not has(text(n))": 1, "getint(k) > n": 1, "n <= getint(k)": 1, "k == getstr(k)": 1,
		"has(k) and has(k)": 2, "has(k) or n == 1 or has(k)": 2, "has(getstr(k))": 2, "has(k) == has(k)": 2,
		"has(k) and (getint(k) < n or not getstr(getstr(k)) != k)": 4,
	}
}

// TestP13_1Statements has each statement with all of these expressions in each place.
func TestP13_1Statements(t *testing.T) {
	checkBody(t, "", amounts{})
	checkBody(t, "abort 7;", amounts{1, 0, 0, 0})
	for a, number := range ints() {
		key := "text(" + a + ")"
		checkBody(t, "let x = "+a+";", amounts{1, number, 0, 0})
		checkBody(t, "let x = "+key+";", amounts{1, number, 0, 0})
		checkBody(t, "n = "+a+";", amounts{1, number, 0, 0})
		checkBody(t, "k = "+key+";", amounts{1, number, 0, 0})
		checkBody(t, "emit "+a+";", amounts{1, number, 0, 1})
		checkBody(t, "emit "+key+";", amounts{1, number, 0, 1})
		checkBody(t, "delete "+key+";", amounts{1, number, 1, 0})
		for b, other := range ints() {
			checkBody(t, "put "+key+" = "+b+";", amounts{1, number + other, 1, 0})
			checkBody(t, "for i = "+a+" to "+b+" max 1 {}", amounts{2, number + other, 0, 0})
			checkBody(t, "for i = "+a+" to "+b+" max 16 {}", amounts{17, number + other, 0, 0})
		}
	}
	for a, number := range truths() {
		checkBody(t, "let x = "+a+";", amounts{1, number, 0, 0})
		checkBody(t, "let x = n == 1; x = "+a+";", amounts{2, number, 0, 0})
		checkBody(t, "if "+a+" {}", amounts{1, number, 0, 0})
		checkBody(t, "if "+a+" {} else {}", amounts{1, number, 0, 0})
		checkBody(t, "if "+a+" { abort 1; }", amounts{2, number, 0, 0})
	}
}

// TestP13_1Operators has reading operators as operands of every operator.
func TestP13_1Operators(t *testing.T) {
	isReading := func(op int) bool { return op == 22 || op == 23 || op == 24 }
	passed := map[int]bool{}
	for read := 22; read <= 24; read++ {
		e := api.Expr{Op: read, Args: []api.Expr{{Op: api.EVar, S: "k"}}}
		for op := 4; op <= 27; op++ {
			for operands := range 3 {
				p := proc(t, "let x = 1;")
				p.Body[0].A = api.Expr{Op: op, Args: []api.Expr{e, e}[:operands]}
				if e := determinism.Check(p); e != api.OK {
					checkProc(t, p, none(), e)
					continue
				}
				number := int64(operands)
				if isReading(op) {
					number++
				}
				checkProc(t, p, amounts{1, number, 0, 0}, api.OK)
				passed[op] = true
			}
		}
	}
	if len(passed) != 21 {
		t.Errorf("%d operators have operands that read the state", len(passed))
	}
}

// parts are statements with their counts. X stands for a name.
func parts() map[string]amounts {
	return map[string]amounts{
		"abort 0;": {1, 0, 0, 0}, "n = getint(k);": {1, 1, 0, 0}, "put k = getstr(getstr(k));": {1, 2, 1, 0}, "delete k;": {1, 0, 1, 0}, "emit n;": {1, 0, 0, 1},
		"if has(k) { emit getint(k); } else { delete k; delete k; }": {3, 2, 2, 1},
		"for X = 0 to getint(k) max 2 { delete k; }":                 {5, 1, 2, 0},
	}
}

// TestP13_1Lists requires that a list of statements has the sums of their counts, in whatever order and wherever they are.
func TestP13_1Lists(t *testing.T) {
	for a, first := range parts() {
		for b, second := range parts() {
			for c, third := range parts() {
				body := ""
				for i, s := range []string{a, b, c} {
					body += strings.ReplaceAll(s, "X", fmt.Sprintf("i%d", i))
				}
				all := sum(sum(first, second), third)
				checkBody(t, body, all)
				checkBody(t, "if n == 1 {"+body+"}", sum(amounts{steps: 1}, all))
				checkBody(t, "if n == 1 {} else {"+body+"}", sum(amounts{steps: 1}, all))
				checkBody(t, "for i = 1 to n max 2 {"+body+"}", sum(amounts{steps: 3}, sum(all, all)))
			}
		}
	}
}

// TestP13_1Branches requires of an if statement the greater one of each count.
func TestP13_1Branches(t *testing.T) {
	for _, c := range []struct {
		body, other string
		want        amounts
	}{
		{"", "", amounts{1, 0, 0, 0}},
		{"abort 1;", "", amounts{2, 0, 0, 0}},
		{"n = 1; n = 2;", "n = 3;", amounts{3, 0, 0, 0}},
		{"n = getint(k) + getint(k);", "n = 1; n = getint(k);", amounts{3, 2, 0, 0}},
		{"emit 1; emit 2; emit 3;", "delete k; delete k;", amounts{4, 0, 2, 3}},
		{"put k = 1;", "put k = getint(k) + getint(k); emit 1;", amounts{3, 2, 1, 1}},
		{"for i = 0 to n max 4 { emit i; }", "delete k; emit getint(k); abort 1;", amounts{10, 1, 1, 4}},
		{"if has(k) { emit 1; } else { delete k; delete k; }", "if n == 1 { emit 1; emit 2; emit 3; }", amounts{5, 1, 2, 3}},
	} {
		for _, branches := range []string{"{" + c.body + "} else {" + c.other + "}", "{" + c.other + "} else {" + c.body + "}"} {
			checkBody(t, "if n == 1 "+branches, c.want)
			checkBody(t, "if has(k) "+branches, sum(c.want, amounts{gets: 1}))
			checkBody(t, "if n == 0 {} else { if n == 1 "+branches+"}", sum(c.want, amounts{steps: 1}))
			checkBody(t, "if n == 0 { if n == 1 "+branches+"} else { emit 1; }", sum(c.want, amounts{steps: 1, emits: max(1-c.want.emits, 0)}))
			// Each iteration may go through another branch.
			checkBody(t, "for j = 0 to n max 3 { if n == j "+branches+"}", sum(amounts{steps: 4}, sum(c.want, sum(c.want, c.want))))
		}
	}
}

// TestP13_1Loops has all numbers of iterations.
func TestP13_1Loops(t *testing.T) {
	for m := int64(1); m <= 16; m++ {
		head := fmt.Sprintf("for i = getint(k) to n max %d ", m)
		checkBody(t, head+"{}", amounts{1 + m, 1, 0, 0})
		checkBody(t, head+"{ abort 3; }", amounts{1 + 2*m, 1, 0, 0})
		checkBody(t, head+"{ emit i; }", amounts{1 + 2*m, 1, 0, m})
		checkBody(t, head+"{ delete k; n = len(getstr(k)); put k = getint(k); }", amounts{1 + 4*m, 1 + 2*m, 2 * m, 0})
		checkBody(t, head+"{ if has(k) { emit n; } else { delete k; } }", amounts{1 + 3*m, 1 + m, m, m})
		checkBody(t, head+"{ for j = i to getint(k) max 2 { delete k; } }", amounts{1 + 6*m, 1 + m, 2 * m, 0})
		checkBody(t, "for j = 0 to n max 2 {"+head+"{ put k = i; } }", amounts{5 + 4*m, 2, 2 * m, 0})
		checkBody(t, "for j = 0 to n max 1 { abort 1; }"+head+"{ abort 1; }", amounts{4 + 2*m, 1, 0, 0})
		// The bounds do not count.
		checkBody(t, fmt.Sprintf("for i = 5 to 3 max %d { delete k; }", m), amounts{1 + 2*m, 0, m, 0})
		checkBody(t, fmt.Sprintf("for i = 0 to 99 max %d { delete k; }", m), amounts{1 + 2*m, 0, m, 0})
	}
}

// TestP13_1Unreached requires that statements count that no run executes.
func TestP13_1Unreached(t *testing.T) {
	checkBody(t, "abort 1; emit getint(k); delete k;", amounts{3, 1, 1, 1})
	checkBody(t, "if 1 == 2 { emit 1; emit 2; } else { delete k; }", amounts{3, 0, 1, 2})
	checkBody(t, "for i = 0 to 0 max 5 { abort 1; put k = getint(k); }", amounts{16, 5, 5, 0})
}

// TestP13_1Other requires that names, parameters, constants and codes have no counts.
func TestP13_1Other(t *testing.T) {
	p := proc(t, "let x = 3; emit x; put \"a\" = \"b\"; abort 999;")
	want := amounts{4, 0, 1, 1}
	checkProc(t, p, want, api.OK)
	p.Name = "p_16_bytes_long_"
	p.Params = append(p.Params, api.Param{Name: "other", Type: api.TyInt}, api.Param{Name: "a", Type: api.TyStr})
	p.Body[0].A.N, p.Body[3].Max = 1<<62, 22
	p.Body[2].A.S, p.Body[2].B.S = "getint(k)", "has(k) getstr(k)"
	checkProc(t, p, want, api.OK)
	checkProc(t, api.Proc{Name: "p"}, amounts{}, api.OK)
}
