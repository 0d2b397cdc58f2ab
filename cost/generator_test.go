package cost

import (
	"clockwork/api"
	"clockwork/parser"
	"fmt"
	"math/rand/v2"
	"strings"
	"testing"
)

// generator makes random procedures.
type generator struct {
	*rand.Rand
	most   int // iterations of a loop
	errors int // in a thousand places, on average
	names  int // that are declared so far
}

// some returns one of the elements.
func some[E any](g *generator, l ...E) E {
	return l[g.IntN(len(l))]
}

// expr returns the text of an expression of the type (I, S or B), of up to this number of levels.
func (g *generator) expr(ty byte, levels int) string {
	if g.IntN(1000) < g.errors {
		return some(g, "now()", "random()", "node()", "none", "1", "k", "has(k)")
	}
	if levels <= 1 {
		return map[byte]string{'I': "n", 'S': "k", 'B': "n == 1"}[ty]
	}
	return g.fill(some(g, map[byte][]string{
		'I': {"1", "n", "-I", "I + I", "I % I", "len(S)", "getint(S)"},
		'S': {`"has(k)"`, "k", "text(I)", "S ++ S", "getstr(S)"},
		'B': {"n == 1", "I < I", "S != S", "B == B", "not B", "B and B", "B or B", "has(S)"},
	}[ty]...), func() int { return levels - 1 }, 0)
}

// fill returns the form with an expression of up to so many levels for each I, S and B, a new name for X, a greatest number of iterations for M, and a block of up to the number of blocks for Y.
func (g *generator) fill(form string, levels func() int, blocks int) string {
	var b strings.Builder
	for _, c := range []byte(form) {
		switch c {
		case 'I', 'S', 'B':
			b.WriteString("(" + g.expr(c, levels()) + ")")
		case 'X':
			g.names++
			fmt.Fprintf(&b, "v%d", g.names)
		case 'M':
			fmt.Fprint(&b, 1+g.IntN(g.most))
		case 'Y':
			b.WriteString(g.block(blocks))
		default:
			b.WriteByte(c)
		}
	}
	return b.String()
}

// block returns the text of statements with up to this number of levels of blocks in them.
func (g *generator) block(blocks int) string {
	text := ""
	for range some(g, 0, 1, 1, 2, 2, 3) {
		simple := []string{"let X = I;", "let X = B;", "n = I;", "k = S;", "put S = I;", "put S = S;", "delete S;", "emit I;", "emit S;", "abort 1;"}
		form := some(g, simple...)
		if blocks > 0 && g.IntN(3) > 0 {
			form = some(g, "if B {Y}", "if B {Y} else {Y}", "for X = I to I max M {Y}", "for X = I to I max M {Y}")
		}
		text += g.fill(form, func() int { return 1 + g.IntN(4) }, blocks-1)
	}
	return text
}

// proc returns a procedure with the parameters k: str and n: int.
func (g *generator) proc() api.Proc {
	for {
		p, _, e := parser.Proc("proc p(k: str, n: int) {" + g.block(g.IntN(8)) + "}")
		if e == api.OK {
			return p
		}
	}
}

// randomProcs returns the same procedures each time, with short and with long loops, with errors and without.
func randomProcs(number int) []api.Proc {
	var l []api.Proc
	for i := range number {
		g := &generator{Rand: rand.New(rand.NewPCG(13, uint64(i)))}
		g.most, g.errors = []int{2, 3, 5, 16}[i%4], i/4%3/2*5
		l = append(l, g.proc())
	}
	return l
}

// TestP13_2Random compares random procedures with the definition.
func TestP13_2Random(t *testing.T) {
	counts := map[api.Errno]int{}
	saturated := map[string]int{}
	for _, p := range randomProcs(12000) {
		want, e := definedResults(p), definedCheck(p)
		checkProc(t, p, want, e)
		counts[e]++
		for name, number := range map[string]int64{"steps": want.steps, "gets": want.gets, "puts": want.puts, "emits": want.emits} {
			if number > mostSteps {
				saturated[name]++
			}
		}
	}
	for _, e := range []api.Errno{api.OK, api.ErrFuel, api.ErrLimit, api.ErrNondeterministic, api.ErrType, api.ErrUnassigned} {
		if counts[e] < 60 {
			t.Errorf("%d procedures have the error %d", counts[e], e)
		}
	}
	for _, name := range []string{"steps", "gets", "puts", "emits"} {
		if saturated[name] < 15 {
			t.Errorf("%d procedures have too many %s to count", saturated[name], name)
		}
	}
}
