package parser

import (
	"clockwork/api"
	"clockwork/lexer"
	"slices"
	"strings"
	"testing"
)

// allWords returns the texts of a token of each kind that the grammar tells apart.
func allWords() []string {
	keywords := strings.Fields("proc let put delete if else for to max emit abort not and or int str bool text len getint getstr has now random node")
	marks := strings.Fields("( ) { } , ; : = == != < <= > >= + - * / % ++")
	return slices.Concat(keywords, marks, []string{"x", "1", `"s"`})
}

// textsOf returns the texts of the tokens of src.
func textsOf(src string) []string {
	tokens, _, e := lexer.Tokenize(src)
	if e != api.OK {
		panic("there are no tokens of " + src)
	}
	var l []string
	for _, token := range tokens {
		s, _ := lexer.Join([]api.Token{token})
		l = append(l, s)
	}
	return l
}

// lined returns the texts with one of them on each line, so that the line of an error tells its token.
func lined(texts ...string) string {
	return strings.Join(texts, "\n")
}

// extend checks all lists of tokens that begin with the texts and have up to this number of words more, but for those that have more behind an error.
func extend(t *testing.T, symbol string, texts, words []string, more int) int {
	t.Helper()
	count := 0
	for _, word := range words {
		longer := append(slices.Clip(texts), word)
		_, line, e := check(t, symbol, lined(longer...))
		count++
		if e == api.ErrSyntax || e == api.ErrLimit && line > 0 {
			if line != len(longer) {
				t.Fatalf("%s of %q has its error on line %d", symbol, longer, line)
			}
			checkError(t, symbol, lined(append(longer, "x", "(")...), line, e)
		} else if more > 1 {
			count += extend(t, symbol, longer, words, more-1)
		}
	}
	return count
}

func TestP10_1ShortExpressions(t *testing.T) {
	some := strings.Fields("x 1 ( ) not - and == ++ * len now ;")
	count := extend(t, symbolExpr, nil, allWords(), 3) + extend(t, symbolExpr, nil, some, 6)
	if count < 50000 {
		t.Errorf("%d lists are tested", count)
	}
}

func TestP10_1ShortProcedures(t *testing.T) {
	some := strings.Fields("proc x ( ) { } , : int ;")
	count := extend(t, symbolProc, nil, allWords(), 4) + extend(t, symbolProc, nil, some, 11)
	count += extend(t, symbolProgram, nil, allWords(), 4) + extend(t, symbolProgram, nil, some, 11)
	if count < 800 {
		t.Errorf("%d lists are tested", count)
	}
}

func TestP10_1ShortStatements(t *testing.T) {
	count := 0
	for _, x := range []struct{ before, words string }{
		{"", "let x = 1 ;"}, {"", "put x = ; }"}, {"", "delete x emit ; }"}, {"", "abort 1 ; x }"}, {"", "if x { } else"}, {"for x =", "x to max 1 { }"}, {"if x { } else { if x {", "x } else"},
	} {
		before := textsOf("proc p() {" + x.before)
		count += extend(t, symbolProc, before, allWords(), 2)
		count += extend(t, symbolProc, before, strings.Fields(x.words), 7)
		count += extend(t, symbolProgram, before, strings.Fields(x.words), 6)
	}
	if count < 4000 {
		t.Errorf("%d lists are tested", count)
	}
}

// samples are texts of all symbols that have each form of the grammar.
func samples() []string {
	return []string{
		`proc transfer(from: str, n: int, b: bool) { let x = getint(from) ; x = x - n; put from ++ "/" = x; if x < 0 and not b or has("k") { abort 3; } else { delete from; } for i = 0 to n * 2 max 8 { emit text(i); } }`,
		`proc p() { if a { if b {} else { emit -(1 + 2) % len(getstr(k)); } } else { for i = now() to random() / node() max 16 {} } } proc q(a: int) {} proc r() { emit (a == b) != (c <= d); x = not (a > b) ; y = not a >= b; }`,
	}
}

// TestP10_1Changed changes one token of texts: to each other one, to a string that looks like it, to nothing, with another one in front of it, or with the next one.
func TestP10_1Changed(t *testing.T) {
	for _, src := range samples() {
		texts := textsOf(src)
		for i := range texts {
			before, behind := slices.Clip(texts[:i]), texts[i+1:]
			for _, word := range append(allWords(), texts[i], `"`+strings.Trim(texts[i], `"`)+`"`) {
				for _, symbol := range []string{symbolProc, symbolProgram} {
					check(t, symbol, lined(slices.Concat(before, []string{word}, behind)...))
					check(t, symbol, lined(slices.Concat(before, []string{word}, texts[i:])...))
				}
			}
			check(t, symbolProgram, lined(slices.Concat(before, behind)...))
			check(t, symbolProgram, lined(before...))
			check(t, symbolProc, lined(before...))
			swapped := slices.Clone(texts)
			swapped[i], swapped[(i+1)%len(texts)] = swapped[(i+1)%len(texts)], swapped[i]
			check(t, symbolProgram, lined(swapped...))
		}
	}
}
