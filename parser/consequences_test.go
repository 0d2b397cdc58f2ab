package parser

import (
	"clockwork/api"
	"clockwork/ast"
	"clockwork/lexer"
	"clockwork/printer"
	"fmt"
	"math/rand/v2"
	"slices"
	"strings"
	"testing"
)

// generator makes random trees together with tokens that have them.
type generator struct {
	*rand.Rand
}

// newGenerator returns a generator that makes the same things each time.
func newGenerator() generator {
	return generator{rand.New(rand.NewPCG(10, 3))}
}

// some returns one of the elements.
func some[E any](g generator, l ...E) E {
	return l[g.IntN(len(l))]
}

// expr returns an expression of at least this level of the grammar, of up to this number of levels of operators, and the texts of its tokens.
func (g generator) expr(level, levels int) (api.Expr, []string) {
	if levels == 0 {
		return g.unit(0)
	}
	switch {
	case level == 9:
		return g.unit(levels)
	case level == 3 && g.IntN(3) == 0:
		e, l := g.expr(3, levels-1)
		return apply(api.ENot, e), append([]string{"not"}, l...)
	case level == 8 && g.IntN(3) == 0:
		e, l := g.expr(8, levels-1)
		return apply(api.ENeg, e), append([]string{"-"}, l...)
	}
	e, l := g.expr(level+1, levels-1)
	for g.IntN(3) == 0 {
		i := g.IntN(len(binding))
		if binding[i].level != level {
			continue
		}
		right, words := g.expr(level+1, levels-1)
		e, l = apply(binding[i].op, e, right), slices.Concat(l, []string{binding[i].text}, words)
		if level == 4 {
			break
		}
	}
	return e, l
}

// unit returns an expression of the last level.
func (g generator) unit(levels int) (api.Expr, []string) {
	switch {
	case levels > 0 && g.IntN(3) == 0:
		e, l := g.expr(1, levels-1)
		return e, slices.Concat([]string{"("}, l, []string{")"})
	case levels > 0 && g.IntN(3) == 0:
		op := some(g, api.EText, api.ELen, api.EGetInt, api.EGetStr, api.EHas)
		e, l := g.expr(1, levels-1)
		return apply(op, e), slices.Concat([]string{callText(op), "("}, l, []string{")"})
	}
	switch g.IntN(4) {
	case 0:
		n := some(g, 0, 1, 10, g.Int64()>>g.IntN(64))
		return number(n), []string{fmt.Sprint(n)}
	case 1:
		s := some(g, "", "or", "(", "#", ";", `"`, `\`, "a b", "}", strings.Repeat(`\"`, g.IntN(33)))
		literal, _ := lexer.Quote(s)
		return text(s), []string{literal}
	case 2:
		op := some(g, api.ENow, api.ERandom, api.ENode)
		return apply(op), []string{callText(op), "(", ")"}
	default:
		name := some(g, "a", "b", "nota", "e_1", "max_")
		return variable(name), []string{name}
	}
}

// callText returns the word in front of the parentheses of an operator.
func callText(op int) string {
	for s, other := range calls {
		if other == op {
			return s
		}
	}
	panic("the operator has no parentheses")
}

// block returns statements of up to this number of levels, and the texts of the tokens of their block.
func (g generator) block(levels int) ([]api.Stmt, []string) {
	var body []api.Stmt
	l := []string{"{"}
	for range g.IntN(4) {
		s, words := g.stmt(levels)
		body, l = append(body, s), append(l, words...)
	}
	return body, append(l, "}")
}

// stmt returns a statement.
func (g generator) stmt(levels int) (api.Stmt, []string) {
	x, l := g.expr(1, g.IntN(9))
	y, m := g.expr(1, g.IntN(9))
	name, end := some(g, "a", "b", "let_"), []string{";"}
	kind := g.IntN(8)
	if levels == 0 {
		kind = g.IntN(6)
	}
	switch kind {
	case 0:
		return let(name, x), slices.Concat([]string{"let", name, "="}, l, end)
	case 1:
		return set(name, x), slices.Concat([]string{name, "="}, l, end)
	case 2:
		return put(x, y), slices.Concat([]string{"put"}, l, []string{"="}, m, end)
	case 3:
		return remove(x), slices.Concat([]string{"delete"}, l, end)
	case 4:
		return emit(x), slices.Concat([]string{"emit"}, l, end)
	case 5:
		code := g.IntN(mostCode + 1)
		return abort(code), []string{"abort", fmt.Sprint(code), ";"}
	case 6:
		most := 1 + g.IntN(mostLoop)
		body, words := g.block(levels - 1)
		return loop(name, x, y, most, body...), slices.Concat([]string{"for", name, "="}, l, []string{"to"}, m, []string{"max", fmt.Sprint(most)}, words)
	}
	then, words := g.block(levels - 1)
	otherwise, more := g.block(levels - 1)
	if g.IntN(2) == 0 {
		return when(x, then, nil), slices.Concat([]string{"if"}, l, words)
	}
	return when(x, then, otherwise), slices.Concat([]string{"if"}, l, words, []string{"else"}, more)
}

// proc returns a procedure.
func (g generator) proc(name string) (api.Proc, []string) {
	p, l := api.Proc{Name: name}, []string{"proc", name, "("}
	for i := range g.IntN(mostParams + 1) {
		ty := g.IntN(3)
		p.Params = append(p.Params, param(string(rune('a'+i)), ty+1))
		l = append(l, string(rune('a'+i)), ":", []string{"int", "str", "bool"}[ty], ",")
	}
	if len(p.Params) > 0 {
		l = l[:len(l)-1]
	}
	body, words := g.block(g.IntN(5))
	p.Body = body
	return p, slices.Concat(l, []string{")"}, words)
}

// spaced returns the texts with random gaps between them. Some gaps are empty, where that changes no token.
func (g generator) spaced(texts []string) string {
	var src strings.Builder
	for _, s := range texts {
		src.WriteString(s)
		if s == "(" || s == ")" || s == ";" || s == "," || s == "{" {
			src.WriteString(some(g, "", "", " ", "\n"))
			continue
		}
		src.WriteString(some(g, " ", "\n", "\t", "  \n\n", " # ; ) }\n", "#\n"))
	}
	return src.String()
}

// TestP10_1RandomExpressions has expressions with more parentheses than they need, in texts with gaps of all kinds.
func TestP10_1RandomExpressions(t *testing.T) {
	g := newGenerator()
	valid := 0
	for i := range 6000 {
		e, l := g.expr(1+i%9, i%25)
		src := g.spaced(l)
		tree, line, code := Expr(src)
		check(t, symbolExpr, src)
		want := ast.ValidExpr(e)
		if line != 0 || code != want {
			t.Fatalf("%q has the error %d on line %d, and its tree %d", src, code, line, want)
		}
		if want == api.OK {
			valid++
			if !ast.Equal(emitted(tree)[0], emitted(e)[0]) {
				t.Fatalf("%q is %+v, want %+v", src, tree, e)
			}
		}
		checkTokens(t, symbolExpr, src)
	}
	if valid < 3000 {
		t.Errorf("%d expressions are valid", valid)
	}
}

// TestP10_1RandomPrograms does the same for procedures and programs.
func TestP10_1RandomPrograms(t *testing.T) {
	g := newGenerator()
	valid := 0
	for i := range 1000 {
		var procs []api.Proc
		var l []string
		for j := range i % 6 {
			p, words := g.proc(fmt.Sprint("p", j))
			src := g.spaced(words)
			if ast.Validate(p) == api.OK && len(src) <= mostSource {
				valid++
				checkProc(t, src, p)
				procs, l = append(procs, p), append(l, words...)
			} else {
				check(t, symbolProc, src)
			}
		}
		src := g.spaced(l)
		if len(src) <= mostSource {
			checkProgram(t, src, procs...)
			checkTokens(t, symbolProgram, src)
		}
	}
	if valid < 1000 {
		t.Errorf("%d procedures are valid", valid)
	}
}

// checkTokens requires that a text with the same tokens has the same tree or error.
func checkTokens(t *testing.T, symbol, src string) {
	t.Helper()
	tokens, _, noTokens := lexer.Tokenize(src)
	joined, tooLong := lexer.Join(tokens)
	if noTokens != api.OK || tooLong != api.OK {
		return
	}
	want, _, wantError := call(symbol, src)
	got, line, e := call(symbol, joined)
	if e != wantError || line > 1 || !slices.EqualFunc(got, want, ast.Equal) {
		t.Fatalf("%q is %+v, with the error %d on line %d; %q is %+v, with the error %d", joined, got, e, line, src, want, wantError)
	}
}

// TestP10_2Tokens has texts with errors, of which the tokens only may matter.
func TestP10_2Tokens(t *testing.T) {
	g := newGenerator()
	for range 3000 {
		_, l := g.proc("p")
		i := g.IntN(len(l))
		l[i] = some(g, append(allWords(), l[i])...)
		l = l[:len(l)-g.IntN(2)]
		checkTokens(t, symbolProc, g.spaced(l))
		checkTokens(t, symbolProgram, g.spaced(append(l, "proc", "q", "(", ")", "{", "}")))
		checkTokens(t, symbolExpr, g.spaced(l[5:]))
	}
}

// TestP10_2Expressions reads the canonical source of expressions: of all with one or two operators, and of random ones.
func TestP10_2Expressions(t *testing.T) {
	units := []api.Expr{number(7), text(`a"or\`), a, apply(api.ENow)}
	one := applied(units)
	count := 0
	for _, e := range slices.Concat(units, one, applied(one[:len(one):len(one)])) {
		count++
		checkCanonicalExpr(t, e)
	}
	if count < 10000 {
		t.Errorf("%d expressions are tested", count)
	}
	g := newGenerator()
	for i := range 5000 {
		if e, _ := g.expr(1, i%25); ast.ValidExpr(e) == api.OK {
			checkCanonicalExpr(t, e)
		}
	}
}

// applied returns the expressions with one operator and operands of the list, or of its first ones if there are too many.
func applied(l []api.Expr) []api.Expr {
	var result []api.Expr
	for op := api.EInt; op <= api.ENode; op++ {
		for _, x := range l {
			switch ast.Arity(op) {
			case 1:
				result = append(result, apply(op, x))
			case 2:
				for _, y := range l[:min(len(l), 5)] {
					result = append(result, apply(op, x, y), apply(op, y, x))
				}
			}
		}
	}
	return result
}

// checkCanonicalExpr requires that the canonical source of e is e.
func checkCanonicalExpr(t *testing.T, e api.Expr) {
	t.Helper()
	src := printer.Expr(e)
	tree, line, code := Expr(src)
	if src == "" || line != 0 || code != api.OK || !ast.Equal(emitted(tree)[0], emitted(e)[0]) {
		t.Fatalf("the canonical source of %+v is %q, which is %+v, with the error %d on line %d", e, src, tree, code, line)
	}
}

// TestP10_2Deep has expressions of the greatest depth, of which some have as many parentheses as possible.
func TestP10_2Deep(t *testing.T) {
	ops := []int{api.EOr, api.EAnd, api.ENot, api.EEq, api.ECat, api.ESub, api.EMul, api.ENeg, api.EHas}
	for _, x := range ops {
		for _, y := range ops {
			for _, z := range ops {
				for side := range 3 {
					e := variable("v")
					for i := range mostDepth - 1 {
						e = operated([]int{x, y, z}[i%3], e, side == 0 || side == 2 && i%2 == 0)
					}
					checkCanonicalExpr(t, e)
					checkError(t, symbolExpr, strings.Replace(printer.Expr(e), "v", "len(v)", 1), 0, api.ErrLimit)
				}
			}
		}
	}
}

// operated returns an expression with the operator, and with e as its first or last operand.
func operated(op int, e api.Expr, first bool) api.Expr {
	if ast.Arity(op) == 1 {
		return apply(op, e)
	}
	return pick(first, apply(op, e, b), apply(op, b, e))
}

// TestP10_2Programs reads the canonical source of procedures and programs.
func TestP10_2Programs(t *testing.T) {
	g := newGenerator()
	var procs []api.Proc
	for i := 0; len(procs) < 800; i++ {
		p, _ := g.proc(fmt.Sprint("p", i))
		if ast.Validate(p) == api.OK && len(printer.Proc(p)) <= mostSource {
			checkProc(t, printer.Proc(p), p)
			procs = append(procs, p)
		}
	}
	for i := 0; len(procs) > 0; i++ {
		n := min(i%(mostProcs+1), len(procs))
		if src := printer.Program(procs[:n]); len(src) <= mostSource {
			checkProgram(t, src, procs[:n]...)
		} else {
			checkError(t, symbolProgram, src, 0, api.ErrLimit)
		}
		procs = procs[n:]
	}
}

// TestP10_2Large has procedures of the greatest size in all respects.
func TestP10_2Large(t *testing.T) {
	inner, outer := []api.Stmt(nil), []api.Stmt(nil)
	for i := range mostDepth {
		inner = stmts(pick(i%2 == 0, when(a, nil, inner), loop("i", a, b, mostLoop, inner...)), abort(i))
		outer = stmts(when(a, outer, nil))
	}
	checkProc(t, printer.Proc(proc(inner...)), proc(inner...))
	checkProc(t, printer.Proc(proc(outer...)), proc(outer...))
	var many []api.Stmt
	for i := range mostNodes {
		many = append(many, abort(i))
	}
	checkProc(t, printer.Proc(proc(many...)), proc(many...))
	var long []api.Stmt
	for range mostNodes / 2 {
		long = append(long, emit(text(strings.Repeat(`"`, mostString))))
	}
	checkError(t, symbolProc, printer.Proc(proc(long...)), 0, api.ErrLimit)
	for len(printer.Proc(proc(long...))) > mostSource {
		long = long[1:]
	}
	checkSize(t, proc(long...))
}

// checkSize fills the canonical source of p up to the greatest number of bytes, and then makes it longer by one byte.
func checkSize(t *testing.T, p api.Proc) {
	t.Helper()
	size := len("    abort 0;\n")
	room := mostSource - len(printer.Proc(p))
	for range room / size {
		p.Body = append(p.Body, abort(0))
	}
	p.Name += strings.Repeat("p", room%size)
	src := printer.Proc(p)
	if len(src) != mostSource {
		t.Errorf("the canonical source has %d bytes", len(src))
	}
	checkProcAlone(t, src, p)
	p.Name += "p"
	checkError(t, symbolProc, printer.Proc(p), 0, api.ErrLimit)
}
