package parser

import (
	"clockwork/api"
	"clockwork/lexer"
	"fmt"
	"math/rand/v2"
	"strings"
	"testing"
)

// symbols returns the symbols that the functions read.
func symbols() []string {
	return []string{symbolExpr, symbolProc, symbolProgram}
}

// TestP10_1TokenErrors has errors of package lexer, in front of and behind texts with other errors and without.
func TestP10_1TokenErrors(t *testing.T) {
	for _, x := range []struct {
		src string
		e   api.Errno
	}{
		{"!", api.ErrSyntax}, {"1x", api.ErrSyntax}, {"007", api.ErrSyntax}, {"_a", api.ErrSyntax}, {"A", api.ErrSyntax}, {"\x00", api.ErrSyntax}, {"é", api.ErrSyntax}, {"\xff", api.ErrSyntax}, {"\r", api.ErrSyntax}, {`"\n"`, api.ErrSyntax},
		{`"`, api.ErrTruncated}, {`"a\"`, api.ErrTruncated}, {"9223372036854775808", api.ErrOverflow}, {"seventeen_letters", api.ErrLimit}, {`"` + strings.Repeat("k", 65) + `"`, api.ErrLimit},
	} {
		for _, symbol := range symbols() {
			checkError(t, symbol, x.src, 1, x.e)
			checkError(t, symbol, "\n\n "+x.src, 3, x.e)
			for _, before := range []string{"a", "a b", ")", "1 +", "proc p() {}", "proc p() {", "proc p() { emit }", "proc p() { abort 1000; }", strings.Repeat("(", 50), strings.Repeat("proc p() {} ", 20)} {
				checkError(t, symbol, before+"\n"+x.src, 2, x.e)
			}
		}
	}
}

// TestP10_1Size has texts of exactly the greatest number of bytes, and of one more.
func TestP10_1Size(t *testing.T) {
	for _, x := range []struct{ symbol, src string }{{symbolExpr, "1 + a"}, {symbolProc, "proc p() { emit a; }"}, {symbolProgram, "proc p() {} proc q() {}"}, {symbolProgram, ""}} {
		for _, fill := range []string{" ", "\n", "#"} {
			src := x.src + strings.Repeat(fill, mostSource-len(x.src))
			if _, _, e := check(t, x.symbol, src); e != api.OK {
				t.Errorf("%s has the error %d", x.src, e)
			}
			checkError(t, x.symbol, src+" ", 0, api.ErrLimit)
			checkError(t, x.symbol, fill+src, 0, api.ErrLimit)
		}
	}
	for _, symbol := range symbols() {
		for _, src := range []string{"!", "(", ")", "\"", "a ", "proc p() {}"} {
			src = strings.Repeat(src, mostSource/len(src)+1)
			checkError(t, symbol, src, 0, api.ErrLimit)
			check(t, symbol, src[:mostSource])
		}
	}
}

// TestP10_1ExprErrors has expressions of trees that are too deep.
func TestP10_1ExprErrors(t *testing.T) {
	for _, x := range []struct{ before, behind string }{
		{"-", ""}, {"not ", ""}, {"len(", ")"}, {"text(", ")"}, {"getint(", ")"}, {"getstr(", ")"}, {"has(", ")"}, {"", " or a"}, {"", " and a"}, {"", " ++ a"}, {"", " + a"}, {"", " - a"}, {"", " * a"}, {"", " / a"}, {"", " % a"},
		{"a + (", ")"}, {"(", ") == a"}, {"a < (", ")"}, {"-(", ")"}, {"(", ") or a"},
	} {
		for depth := 1; depth <= mostDepth+1; depth++ {
			src := strings.Repeat(x.before, depth-1) + "a" + strings.Repeat(x.behind, depth-1)
			if depth > mostDepth {
				checkError(t, symbolExpr, src, 0, api.ErrLimit)
				checkError(t, symbolExpr, "\n"+src+"\n", 0, api.ErrLimit)
				checkError(t, symbolProc, "proc p() {\nemit "+src+";}", 0, api.ErrLimit)
			} else if _, _, e := check(t, symbolExpr, src); e != api.OK {
				t.Errorf("%s has the error %d", src, e)
			}
		}
	}
	for _, n := range []int{100, 1000, mostSource/2 - 1} {
		chain := strings.Repeat("a-", n) + "a"
		for _, x := range []struct {
			src  string
			line int
			e    api.Errno
		}{{chain, 0, api.ErrLimit}, {chain + "-", 1, api.ErrTruncated}, {chain + "\n", 0, api.ErrLimit}, {chain + ")", 1, api.ErrSyntax}} {
			// The definition takes long for long chains.
			if tree, line, e := Expr(x.src); line != x.line || e != x.e || tree.Op != 0 || tree.Args != nil {
				t.Errorf("the chain of %d operators has the error %d on line %d", n, e, line)
			}
		}
	}
}

// TestP10_1ProcErrors has procedures with errors that package ast finds.
func TestP10_1ProcErrors(t *testing.T) {
	deep := strings.Repeat("-", mostDepth) + "1"
	for _, x := range []struct {
		src string
		e   api.Errno
	}{
		{"proc p() { abort 999; }", api.OK},
		{"proc p() { abort 1000; }", api.ErrArg},
		{"proc p() { abort 2147483647; }", api.ErrArg},
		{"proc p() { abort 2147483648; }", api.ErrArg},
		{"proc p() { abort 4294967296; }", api.ErrArg},
		{"proc p() { abort 4294967297; }", api.ErrArg},
		{"proc p() { abort 9223372036854775807; }", api.ErrArg},
		{"proc p() { for i = a to b max 0 {} }", api.ErrArg},
		{"proc p() { for i = a to b max 1 {} }", api.OK},
		{"proc p() { for i = a to b max 16 {} }", api.OK},
		{"proc p() { for i = a to b max 17 {} }", api.ErrArg},
		{"proc p() { for i = a to b max 4294967297 {} }", api.ErrArg},
		{"proc p() { for i = a to b max 9223372036854775807 {} }", api.ErrArg},
		{"proc p(a: int, b: int, c: int, d: int, e: int, f: int) {}", api.OK},
		{"proc p(a: int, b: int, c: int, d: int, e: int, f: int, g: int) {}", api.ErrLimit},
		{"proc p(a: int, b: int, c: int, d: int, e: int, f: int, a: int) {}", api.ErrLimit},
		{"proc p(a: int, a: int) {}", api.ErrDuplicate},
		{"proc p(a: int, b: int, a: str) { abort 1000; }", api.ErrDuplicate},
		{"proc p(a: int) { let a = 1; let a = 2; }", api.OK},
		{"proc p() { emit " + deep + "; }", api.ErrLimit},
		{"proc p() { emit " + deep + "; abort 1000; }", api.ErrLimit},
		{"proc p() { abort 1000; emit " + deep + "; }", api.ErrArg},
		{"proc p() { put a = " + deep + "; }", api.ErrLimit},
		{"proc p() { if a { abort 1; } else { abort 1000; } }", api.ErrArg},
		{"proc p() { for i = a to " + deep + " max 17 {} }", api.ErrArg},
		{"proc p() {" + strings.Repeat("abort 1;", mostNodes) + "}", api.OK},
		{"proc p() {" + strings.Repeat("abort 1;", mostNodes+1) + "}", api.ErrLimit},
		{"proc p() {" + strings.Repeat("abort 1;", mostNodes+1) + "abort 1000; }", api.ErrLimit},
		{"proc p() {" + strings.Repeat("abort 1;", mostNodes) + "abort 1000; }", api.ErrArg},
		{"proc p() {" + strings.Repeat("emit a;", mostNodes/2) + "}", api.OK},
		{"proc p() {" + strings.Repeat("emit a;", mostNodes/2) + "abort 1; }", api.ErrLimit},
		{"proc p() {" + strings.Repeat("if a {", mostDepth) + strings.Repeat("}", mostDepth+1), api.OK},
		{"proc p() {" + strings.Repeat("if a {", mostDepth) + "abort 1;" + strings.Repeat("}", mostDepth+1), api.ErrLimit},
		{"proc p() {" + strings.Repeat("if a {", mostDepth) + "abort 1000;" + strings.Repeat("}", mostDepth+1), api.ErrArg},
	} {
		for _, symbol := range symbols()[1:] {
			if _, line, e := check(t, symbol, x.src); line != 0 || e != x.e {
				t.Errorf("%s of %q has the error %d on line %d, want %d", symbol, x.src, e, line, x.e)
			}
			checkError(t, symbol, x.src+"\n)", 2, api.ErrSyntax)
			checkError(t, symbol, strings.TrimSuffix(x.src, "}"), 1, api.ErrTruncated)
		}
	}
}

// named returns procedures with these names.
func named(names ...string) string {
	var s string
	for _, name := range names {
		s += "proc " + name + "() {}\n"
	}
	return s
}

// numbered returns n procedures with different names.
func numbered(n int) string {
	var names []string
	for i := range n {
		names = append(names, fmt.Sprint("p", i))
	}
	return named(names...)
}

// TestP10_1ProgramErrors has programs of wrong procedures, of equal names, and of too many procedures.
func TestP10_1ProgramErrors(t *testing.T) {
	const wrong = "proc w() { abort 1000; }"
	for _, x := range []struct {
		src string
		e   api.Errno
	}{
		{numbered(mostProcs), api.OK},
		{numbered(mostProcs + 1), api.ErrLimit},
		{numbered(3 * mostProcs), api.ErrLimit},
		{named("a", "a") + numbered(mostProcs), api.ErrLimit},
		{wrong + numbered(mostProcs), api.ErrLimit},
		{numbered(mostProcs-1) + named("p0"), api.ErrDuplicate},
		{numbered(mostProcs-1) + wrong, api.ErrArg},
		{named("a", "a"), api.ErrDuplicate},
		{named("a", "b", "a"), api.ErrDuplicate},
		{named("a", "b", "c", "b", "d"), api.ErrDuplicate},
		{named("a", "b", "c", "c"), api.ErrDuplicate},
		{named("a", "ab", "aa", "b", "a1", "a_"), api.OK},
		{wrong + named("a", "a"), api.ErrArg},
		{named("a") + wrong + named("a"), api.ErrArg},
		{named("a", "a") + wrong, api.ErrDuplicate},
		{named("w") + wrong, api.ErrArg},
		{wrong + named("w"), api.ErrArg},
		{named("a", "b") + "proc a(x: int, x: int) {}", api.ErrDuplicate},
		{named("a") + "proc a(a: int, b: int, c: int, d: int, e: int, f: int, g: int) {}", api.ErrLimit},
	} {
		if _, line, e := check(t, symbolProgram, x.src); line != 0 || e != x.e {
			t.Errorf("%q has the error %d on line %d, want %d", x.src, e, line, x.e)
		}
		checkError(t, symbolProgram, x.src+"proc a(", 1+strings.Count(x.src, "\n"), api.ErrTruncated)
		checkError(t, symbolProgram, x.src+"a", 1+strings.Count(x.src, "\n"), api.ErrSyntax)
	}
	for i := range mostProcs {
		src := numbered(i) + strings.ReplaceAll(numbered(mostProcs-i), "p", "q")
		src = strings.ReplaceAll(src, "qroc", "proc")
		if _, _, e := check(t, symbolProgram, src); e != api.OK {
			t.Errorf("%q has the error %d", src, e)
		}
		for _, x := range []struct {
			body string
			e    api.Errno
		}{{"{ abort 1000; }", api.ErrArg}, {"{ emit " + strings.Repeat("-", mostDepth) + "a; }", api.ErrLimit}} {
			checkError(t, symbolProgram, strings.Replace(src, "q0() {}", "q0() "+x.body, 1), 0, x.e)
		}
	}
}

// TestP0_1Bytes has texts of random bytes and tokens, and texts with one random byte.
func TestP0_1Bytes(t *testing.T) {
	g := rand.New(rand.NewPCG(10, 2))
	words := append(allWords(), "\n", " ", "#", `"`, `"\"{"`, "\x00", "\xff", "é")
	for range 20000 {
		var src []byte
		for range g.IntN(12) {
			src = append(src, words[g.IntN(len(words))]...)
			if g.IntN(3) > 0 {
				src = append(src, ' ')
			}
		}
		for _, symbol := range symbols() {
			check(t, symbol, string(src))
		}
	}
	for _, src := range samples() {
		for i := range len(src) {
			changed := []byte(src)
			changed[i] = byte(g.IntN(256))
			check(t, symbolProc, string(changed))
			check(t, symbolProgram, string(changed))
		}
	}
	if _, _, e := lexer.Tokenize(strings.Join(samples(), " ")); e != api.OK {
		t.Errorf("the samples have the error %d", e)
	}
}
