package parser

import (
	"clockwork/api"
	"math/rand/v2"
	"slices"
	"strings"
	"testing"
)

// opened returns the words with which n nestings begin, each kind in turn, and those with which they end.
func opened(kinds []string, n int) (open, end []string) {
	for i := range n {
		kind := kinds[i%len(kinds)]
		switch kind {
		case "-", "not":
			open = append(open, kind)
		case "(":
			open, end = append(open, "("), append(end, ")")
		default:
			open, end = append(open, kind, "("), append(end, ")")
		}
	}
	return open, end
}

// nestKinds are kinds of nestings of which each may stand in the one before it, and the first one in the last one.
func nestKinds() [][]string {
	return [][]string{
		{"("}, {"-"}, {"not"}, {"text"}, {"len"}, {"getint"}, {"getstr"}, {"has"},
		{"(", "-"}, {"-", "("}, {"not", "("}, {"(", "not", "not"}, {"-", "-", "has"}, {"text", "len", "getint", "getstr", "has"}, {"text", "not", "(", "-"},
	}
}

// TestP10_1Nestings has expressions of more and more nestings, alone and in each place of statements.
func TestP10_1Nestings(t *testing.T) {
	for _, kinds := range nestKinds() {
		for n := 1; n < 2*mostInside; n += 1 + n/30 {
			open, end := opened(kinds, n)
			whole := slices.Concat(open, []string{"x"}, end)
			checkNestings(t, symbolExpr, kinds, nil, n, whole)
			checkNestings(t, symbolExpr, kinds, []string{"a", "or"}, n, whole)
			checkNestings(t, symbolExpr, kinds, nil, n, slices.Concat(open, []string{"now", "("}))
			for _, x := range places() {
				before := textsOf("proc p() {" + x.before)
				checkNestings(t, symbolProc, kinds, before, n, slices.Concat(whole, textsOf(x.behind+"}")))
			}
		}
	}
}

// checkNestings requires of an expression with n nestings, which stands behind other words, that the last ones are too many.
func checkNestings(t *testing.T, symbol string, kinds, before []string, n int, words []string) {
	t.Helper()
	src := lined(slices.Concat(before, words)...)
	if n <= mostInside {
		if _, line, e := check(t, symbol, src); line > 0 && e != api.ErrTruncated {
			t.Fatalf("%q has the error %d on line %d", src, e, line)
		}
		return
	}
	fit, _ := opened(kinds, mostInside)
	at := len(before) + len(fit) + 1
	checkError(t, symbol, src, at, api.ErrLimit)
	// What follows the first word of the nesting does not matter.
	checkError(t, symbol, lined(slices.Concat(before, words)[:at]...), at, api.ErrLimit)
	checkError(t, symbol, src+"\n; }", at, api.ErrLimit)
}

// TestP10_1Innermost has the greatest number of nestings, and different words in them.
func TestP10_1Innermost(t *testing.T) {
	for _, x := range []struct {
		words string
		at    int // the word with the error, if there is one
		e     api.Errno
	}{
		{"x", 0, api.OK}, {"1", 0, api.OK}, {`"("`, 0, api.OK}, {"now ( )", 0, api.OK}, {"random ( )", 0, api.OK}, {"node ( )", 0, api.OK},
		{"x - 1", 0, api.OK}, {"x or x and x == x ++ x + x * x", 0, api.OK}, {"now ( ) - random ( )", 0, api.OK},
		{"( x )", 1, api.ErrLimit}, {"- x", 1, api.ErrLimit}, {"not x", 1, api.ErrLimit}, {"has ( x )", 1, api.ErrLimit}, {"len", 1, api.ErrLimit}, {"text x", 1, api.ErrLimit}, {"getint ;", 1, api.ErrLimit}, {"( (", 1, api.ErrLimit}, {"- )", 1, api.ErrLimit},
		{"x - - x", 3, api.ErrLimit}, {"x and not x", 3, api.ErrLimit}, {"x + ( x )", 3, api.ErrLimit}, {"x == getstr ( x )", 3, api.ErrLimit},
		{")", 1, api.ErrSyntax}, {"+ x", 1, api.ErrSyntax}, {"++ x", 1, api.ErrSyntax}, {"{", 1, api.ErrSyntax}, {"x (", 2, api.ErrSyntax}, {"x not x", 2, api.ErrSyntax}, {"x len", 2, api.ErrSyntax}, {"x == not x", 3, api.ErrSyntax}, {"x + not x", 3, api.ErrSyntax}, {"now ( (", 3, api.ErrSyntax}, {"now ( -", 3, api.ErrSyntax}, {"now (", 2, api.ErrTruncated}, {"now -", 2, api.ErrSyntax},
	} {
		open, end := opened([]string{"("}, mostInside)
		words := strings.Fields(x.words)
		src := lined(slices.Concat(open, words, end)...)
		switch x.e {
		case api.OK:
			if _, _, e := check(t, symbolExpr, src); e != api.OK {
				t.Errorf("%q has the error %d", src, e)
			}
		case api.ErrTruncated:
			checkError(t, symbolExpr, lined(append(open, words...)...), mostInside+x.at, x.e)
		default:
			checkError(t, symbolExpr, src, mostInside+x.at, x.e)
			checkError(t, symbolExpr, lined(append(open, words...)...), mostInside+x.at, x.e)
		}
	}
	open, _ := opened([]string{"-"}, mostInside)
	checkError(t, symbolExpr, lined(append(open, "not", "x")...), mostInside+1, api.ErrSyntax)
	checkError(t, symbolExpr, lined(append(open, "-", "x")...), mostInside+1, api.ErrLimit)
	checkError(t, symbolExpr, lined(append(open, "x", "-", "x", "-", "-")...), mostInside+5, api.ErrTruncated)
}

// TestP10_1NestingsEnd has nestings one after the other, which do not stand in one another.
func TestP10_1NestingsEnd(t *testing.T) {
	for _, kinds := range nestKinds() {
		open, end := opened(kinds, mostInside)
		full := strings.Join(slices.Concat(open, []string{"x"}, end), " ")
		between := []string{"or", "and"}
		if kinds[0] != "not" {
			between = append(between, "==", "++", "+", "-", "*", "%")
		}
		for _, op := range between {
			if _, line, _ := check(t, symbolExpr, full+" "+op+" "+full); line != 0 {
				t.Errorf("%s %s %s has an error on line %d", full, op, full, line)
			}
		}
		for _, src := range []string{
			"emit " + full + "; emit " + full + ";", "put " + full + " = " + full + ";", "let x = " + full + "; x = " + full + "; delete " + full + ";",
			"for i = " + full + " to " + full + " max 1 { emit " + full + "; } if " + full + " { emit " + full + "; } else { emit " + full + "; }",
		} {
			if _, line, _ := check(t, symbolProgram, "proc p() {"+src+"} proc q() {"+src+"}"); line != 0 {
				t.Errorf("%s has an error on line %d", src, line)
			}
		}
	}
	checkExpr(t, strings.Repeat("(", mostInside)+"a"+strings.Repeat(")", mostInside)+" + "+strings.Repeat("(", mostInside)+"b"+strings.Repeat(")", mostInside), apply(api.EAdd, a, b))
}

// blockKinds are the words in front of blocks.
func blockKinds() []string {
	return []string{"if x", "if x { } else", "for i = x to x max 1", "emit x ; if x"}
}

// inBlocks returns the words of a procedure with a block in n others, and the words of the body of the innermost one.
func inBlocks(n int, kind func(i int) string, body string) []string {
	words := strings.Fields("proc p ( ) {")
	for i := range n {
		words = append(words, strings.Fields(kind(i)+" {")...)
	}
	return slices.Concat(words, strings.Fields(body), strings.Fields(strings.Repeat("} ", n+1)))
}

// TestP10_1Blocks has procedures of more and more blocks in one another.
func TestP10_1Blocks(t *testing.T) {
	all := blockKinds()
	kinds := []func(i int) string{func(i int) string { return all[i%len(all)] }, func(i int) string { return all[(i*i+1)%len(all)] }}
	for _, kind := range all {
		kinds = append(kinds, func(int) string { return kind })
	}
	full, end := opened([]string{"("}, mostInside)
	nested := strings.Join(slices.Concat(full, []string{"x"}, end), " ")
	for _, kind := range kinds {
		for n := range 3 * mostDepth {
			for _, body := range []string{"", "emit x ;", "emit " + nested + " ;", "if x ;"} {
				words := inBlocks(n, kind, body)
				if n > mostDepth {
					at := len(inBlocks(mostDepth, kind, "")) - mostDepth + slices.Index(strings.Fields(kind(mostDepth)+" {"), "{")
					checkError(t, symbolProc, lined(words...), at, api.ErrLimit)
					checkError(t, symbolProc, lined(words[:at]...), at, api.ErrLimit)
					checkError(t, symbolProgram, lined(append(words[:at:at], ")")...), at, api.ErrLimit)
					continue
				}
				want := api.OK
				if n == mostDepth && body != "" {
					want = api.ErrLimit // of the tree
				}
				if body == "if x ;" {
					checkError(t, symbolProc, lined(words...), len(words)-n-1, api.ErrSyntax)
				} else if _, line, e := check(t, symbolProc, lined(words...)); line != 0 || e != want {
					t.Fatalf("%q has the error %d on line %d", words, e, line)
				}
			}
		}
	}
}

// TestP10_1InnermostBlock has the greatest number of blocks, and different words in them.
func TestP10_1InnermostBlock(t *testing.T) {
	kind := func(int) string { return "if x" }
	before := len(inBlocks(mostDepth, kind, "")) - mostDepth - 1
	for _, x := range []struct {
		body string
		at   int
		e    api.Errno
	}{
		{"if x {", 3, api.ErrLimit}, {"for i = x to x max 2 {", 9, api.ErrLimit}, {"emit x ; if x { } else {", 6, api.ErrLimit},
		{"{", 1, api.ErrSyntax}, {"if {", 2, api.ErrSyntax}, {"if x + {", 4, api.ErrSyntax}, {"for i = x to x {", 7, api.ErrSyntax}, {"emit {", 2, api.ErrSyntax}, {"} {", 2, api.ErrSyntax}, {"} else {", 0, api.OK}, {"} else { if x {", 6, api.ErrLimit},
	} {
		src := lined(inBlocks(mostDepth, kind, x.body)...)
		if x.e != api.OK {
			checkError(t, symbolProc, src, before+x.at, x.e)
		} else if _, _, e := check(t, symbolProc, src); e != api.OK {
			t.Errorf("%q has the error %d", src, e)
		}
	}
	many := strings.Repeat("if x { } else { } for i = x to x max 1 { } ", 10)
	for n := range mostDepth {
		body := strings.Join(inBlocks(n, kind, many), " ")
		if _, _, e := check(t, symbolProgram, body+strings.ReplaceAll(body, "proc p", " proc q")); e != api.OK {
			t.Errorf("blocks after one another have the error %d", e)
		}
	}
}

// TestP10_1Walks has long lists of tokens, of which each one is chosen among those that may stand there.
func TestP10_1Walks(t *testing.T) {
	g := rand.New(rand.NewPCG(10, 1))
	kinds := map[string]int{"x": api.TkName, "1": api.TkInt, `"s"`: api.TkStr}
	seen := map[api.Errno]int{}
	for i := range 2000 {
		symbol := []string{symbolExpr, symbolProc, symbolProgram}[i%3]
		words := allWords()
		for _, often := range []string{"( - not len ( if {", "x x 1 ) ; }", "if x { } else"}[:g.IntN(4)] {
			words = append(words, strings.Fields(strings.Repeat(often+" ", g.IntN(9)))...)
		}
		s := push(rules[symbol], nil)
		var l []string
		for range g.IntN(1000) {
			word := words[g.IntN(len(words))]
			if steps := after(s, wordOf(api.Token{Kind: kinds[word], Text: word})); len(steps) > 0 {
				l, s = append(l, word), steps[0].rest
			}
		}
		_, _, e := check(t, symbol, lined(l...))
		seen[e]++
		check(t, symbol, lined(append(l, words[g.IntN(len(words))])...))
	}
	if seen[api.OK] < 50 || seen[api.ErrLimit] < 50 || seen[api.ErrTruncated] < 50 {
		t.Errorf("the walks have these errors: %v", seen)
	}
}
