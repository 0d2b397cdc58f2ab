package interp

import (
	"clockwork/api"
	"clockwork/cost"
	"clockwork/parser"
	"fmt"
	"math"
	"math/rand/v2"
	"slices"
	"strings"
	"sync"
	"testing"
)

// variable is one that the statements may use.
type variable struct {
	name   string
	ty     byte // I, S or B
	isLoop bool
}

// generator makes random procedures and what they are executed on.
type generator struct {
	*rand.Rand
	oddities int // in a thousand places, on average: what often ends a run
	names    int // that are declared so far
	visible  []variable
}

// newGenerator returns a generator that makes the same things each time.
func newGenerator(seed int) *generator {
	return &generator{Rand: rand.New(rand.NewPCG(15, uint64(seed)))}
}

// some returns one of the elements.
func some[E any](g *generator, l ...E) E {
	return l[g.IntN(len(l))]
}

// odd tells whether there is something odd in the next place.
func (g *generator) odd() bool {
	return g.IntN(1000) < g.oddities
}

// leaf returns a constant of the type, or the name of a variable.
func (g *generator) leaf(ty byte) string {
	l := map[byte][]string{'I': {"0", "1", "2"}, 'S': {`"s1"`, `"a b"`}, 'B': {"1 == 1", "1 < 1"}}[ty]
	for _, x := range g.visible {
		if x.ty == ty {
			l = append(l, x.name, x.name, x.name)
		}
	}
	return some(g, l...)
}

// key returns a form of a key, at which there is mostly an integer (i) or a string (s).
func (g *generator) key(letter string) string {
	if g.odd() {
		return some(g, "S", `"X"`, `"s0"`, `"i0"`, `""`)
	}
	return fmt.Sprintf(some(g, `"%s0"`, `"%s1"`, `"%s2"`, `"%s3"`, `"%s" ++ text(I)`, `getstr("p%[1]s")`), letter)
}

// form returns a form of an expression of the type.
func (g *generator) form(ty byte) string {
	if g.odd() {
		return some(g, map[byte][]string{
			'I': {"I / I", "I % I", "I * I", "9223372036854775807 - I", "-I - 9223372036854775807"},
			'S': {"S ++ S ++ S ++ S", "getstr(S)", `"` + long(60) + `" ++ S`},
			'B': {"has(S)", "I / I == I"},
		}[ty]...)
	}
	return some(g, map[byte][]string{
		'I': {"L", "L", "-I", "I + I", "I - I", "I * 2", "I / 2", "I % 3", "len(S)", "getint(P)", "getint(P)"},
		'S': {"L", "L", "text(I)", "S ++ S", "getstr(Q)", "getstr(Q)"},
		'B': {"L", "I < I", "I <= I", "S > S", "I >= I", "S != S", "I == I", "B == B", "B != B", "not B", "B and B", "B or B", "has(P)", "has(Q)"},
	}[ty]...)
}

// expr returns the text of an expression of the type, of up to about this number of levels.
func (g *generator) expr(ty byte, levels int) string {
	if levels <= 1 {
		return g.leaf(ty)
	}
	return g.fill(g.form(ty), ty, levels)
}

// fill returns the form with expressions for its letters.
func (g *generator) fill(form string, ty byte, levels int) string {
	var b strings.Builder
	for _, c := range []byte(form) {
		switch c {
		case 'I', 'S', 'B':
			b.WriteString("(" + g.expr(c, levels-1) + ")")
		case 'P', 'Q':
			b.WriteString("(" + g.fill(g.key(map[byte]string{'P': "i", 'Q': "s"}[c]), 'S', levels-1) + ")")
		case 'L':
			b.WriteString(g.leaf(ty))
		default:
			b.WriteByte(c)
		}
	}
	return b.String()
}

// declare returns the name of a new variable.
func (g *generator) declare(ty byte, isLoop bool) string {
	g.names++
	name := fmt.Sprintf("%c%d", 'a'+g.IntN(26), g.names)
	g.visible = append(g.visible, variable{name, ty, isLoop})
	return name
}

// block returns the text of a block of up to this number of statements, in which there are up to so many levels of blocks.
func (g *generator) block(most, blocks int) string {
	outer := len(g.visible)
	text := ""
	for range g.IntN(most + 1) {
		text += g.stmt(most, blocks)
	}
	g.visible = g.visible[:outer]
	return "{" + text + "}"
}

// stmt returns the text of a statement with up to so many levels of blocks in it.
func (g *generator) stmt(most, blocks int) string {
	if blocks > 0 && g.IntN(3) == 0 {
		return g.branch(most, blocks)
	}
	levels := 2 + g.IntN(3)
	ty := some(g, []byte("IISSB")...)
	switch g.IntN(9) {
	case 0, 1:
		return g.fill(some(g, "put P = I;", "put P = I;", "put Q = S;", "put Q = S;", "put Q = I;"), 'S', levels)
	case 2:
		return g.fill(some(g, "delete P;", "delete Q;"), 'S', levels)
	case 3, 4:
		return g.fill(some(g, "emit I;", "emit S;"), 'S', levels)
	case 5:
		if g.odd() {
			return fmt.Sprintf("abort %d;", g.IntN(1000))
		}
	case 6, 7:
		text := g.expr(ty, levels)
		return "let " + g.declare(ty, false) + " = " + text + ";"
	}
	l := slices.DeleteFunc(slices.Clone(g.visible), func(x variable) bool { return x.isLoop })
	x := some(g, l...)
	return x.name + " = " + g.expr(x.ty, levels) + ";"
}

// branch returns the text of an if or a for statement.
func (g *generator) branch(most, blocks int) string {
	if g.IntN(2) == 0 {
		text := "if " + g.expr('B', 2+g.IntN(3)) + " " + g.block(most, blocks-1)
		return text + some(g, "", " else "+g.block(most, blocks-1))
	}
	forms := []string{"0 to %d", "0 to %d", "n to n + %d", "n %% 2 to %d", "getint(P) to getint(P) + %d", "I to %d"}
	bounds := g.fill(fmt.Sprintf(some(g, forms...), g.IntN(4)), 'S', 2)
	outer := len(g.visible)
	text := fmt.Sprintf("for %s = %s max %d %s", g.declare('I', true), bounds, 2+g.IntN(3), g.block(most, blocks-1))
	g.visible = g.visible[:outer]
	return text
}

// proc returns an accepted procedure with the parameters k: str and n: int.
func (g *generator) proc() api.Proc {
	for {
		g.names, g.visible = 0, []variable{{"k", 'S', false}, {"n", 'I', false}}
		p, _, e := parser.Proc("proc p(k: str, n: int) " + g.block(3+g.IntN(6), g.IntN(4)))
		if e == api.OK && cost.Check(p) == api.OK && len(p.Body) > 1 {
			return p
		}
	}
}

// args returns arguments for k and n.
func (g *generator) args() []api.Value {
	return []api.Value{str(some(g, "i0", "s1", "s1", "a b", "pi")), integer(some[int64](g, -1, 0, 1, 2, 3, math.MaxInt64, math.MinInt64))}
}

// value returns a value that is mostly of the type, which is I or S.
func (g *generator) value(ty byte) api.Value {
	if g.odd() != (ty == 'I') {
		return integer(some[int64](g, 0, 1, 2, 3, -1, 7, math.MaxInt64))
	}
	return str(some(g, "", "i1", "i2", "s1", "s3", "a b", long(30)))
}

// keyNames are those of the keys that most procedures use, ascending.
func keyNames() []string {
	return []string{"i0", "i1", "i2", "i3", "pi", "ps", "s0", "s1", "s2", "s3"}
}

// state returns a state of some of the keys.
func (g *generator) state() []api.Pair {
	var l []api.Pair
	for _, key := range keyNames() {
		v := g.value(map[bool]byte{true: 'I', false: 'S'}[key[0] == 'i'])
		if key[0] == 'p' {
			v = str(key[1:] + some(g, "0", "1", "7"))
		}
		if g.IntN(4) > 0 || key[0] == 'p' {
			l = append(l, api.Pair{Key: key, Val: v})
		}
	}
	return l
}

// subset returns some of the keys.
func (g *generator) subset(keys []string) []string {
	return slices.DeleteFunc(slices.Clone(keys), func(string) bool { return g.IntN(4) == 0 })
}

// more returns the keys with some others.
func (g *generator) more(keys []string) []string {
	l := slices.Concat(keys, g.subset(keyNames()))
	slices.Sort(l)
	return slices.Compact(l)
}

// footprint returns a footprint for a run that has the effect e if everything is allowed.
func (g *generator) footprint(e api.Effect) api.Footprint {
	switch g.IntN(6) {
	case 0:
		return everything()
	case 1:
		return api.Footprint{Reads: e.Reads, Writes: e.Puts}
	case 2:
		return api.Footprint{Reads: g.more(e.Reads), Writes: g.more(e.Puts)}
	case 3:
		return api.Footprint{Reads: g.subset(e.Reads), Writes: e.Puts}
	case 4:
		return api.Footprint{Reads: e.Reads, Writes: g.subset(e.Puts)}
	default:
		return api.Footprint{Reads: g.subset(keyNames()), Writes: g.subset(keyNames())}
	}
}

// aRun has the arguments of Run.
type aRun struct {
	p     api.Proc
	args  []api.Value
	pairs []api.Pair
	foot  api.Footprint
}

// String returns the text for messages.
func (r aRun) String() string {
	return fmt.Sprintf("%swith the arguments %q, the state %q and the footprint %+v", show(r.p), texts(r.args), pairTexts(r.pairs), r.foot)
}

// someRuns are the first random runs, which are made only once.
var someRuns = sync.OnceValue(func() []aRun {
	var l []aRun
	for i := range 4000 {
		g := newGenerator(i)
		g.oddities = []int{10, 40, 120}[i%3]
		p := g.proc()
		for j := range 4 {
			g := newGenerator(-4*i - j - 1)
			g.oddities = 30
			r := aRun{p: p, args: g.args(), pairs: g.state()}
			r.foot = g.footprint(definedRun(p, r.args, r.pairs, everything()))
			l = append(l, r)
		}
	}
	return l
})

// randomRuns returns the same runs each time, some of which end early. They must not be changed.
func randomRuns(number int) []aRun {
	return someRuns()[:number]
}

// TestP15_2Random compares random runs with the definition.
func TestP15_2Random(t *testing.T) {
	counts := map[string]int{}
	for _, r := range randomRuns(16000) {
		want := definedRun(r.p, r.args, r.pairs, r.foot)
		if got := Run(r.p, r.args, r.pairs, r.foot); describe(got) != describe(want) {
			t.Fatalf("the effect is\n%s, want\n%s, of\n%s", describe(got), describe(want), r)
		}
		end := fmt.Sprint(want.Outcome.Status, " ", want.Outcome.Code)
		if want.Outcome.Status == api.StAbort && want.Outcome.Code < 1000 {
			end = "2 abort"
		}
		counts[end]++
		if len(want.Reads) > 1 && len(want.Puts) > 1 {
			counts["much "+end]++
		}
		if len(want.Writes) > 1 && len(want.Outcome.Out) > 1 && want.Steps > 15 {
			counts["busy"]++
		}
	}
	for _, end := range []string{"1 0", "3 0", "2 abort", "2 1001", "2 1002", "2 1003", "2 1004", "2 1005", "2 1006", "much 1 0", "much 3 0", "much 2 1001", "much 2 1003", "much 2 1004", "busy"} {
		if counts[end] < 50 {
			t.Errorf("%d runs end in the way: %s", counts[end], end)
		}
	}
	if counts["2 1009"] > 0 {
		t.Errorf("%d runs are rejected", counts["2 1009"])
	}
}

// nodes lists the nodes of e.
func nodes(e *api.Expr) []*api.Expr {
	l := []*api.Expr{e}
	for i := range e.Args {
		l = append(l, nodes(&e.Args[i])...)
	}
	return l
}

// tree returns an expression, in which operands may have wrong types.
func (g *generator) tree() api.Expr {
	g.visible = []variable{{"i0", 'I', false}, {"i1", 'I', false}, {"s0", 'S', false}, {"s1", 'S', false}, {"b0", 'B', false}, {"b1", 'B', false}}
	for {
		e, _, err := parser.Expr(g.expr(some(g, []byte("ISB")...), 3+g.IntN(5)))
		if err != api.OK {
			continue
		}
		if node := some(g, nodes(&e)...); g.IntN(6) == 0 {
			switch len(node.Args) {
			case 0:
				*node = some(g, api.Expr{Op: api.EVar, S: some(g, "i0", "s0", "b0", "none")}, api.Expr{Op: api.ERandom})
			case 1:
				node.Op = some(g, api.ENeg, api.ENot, api.EText, api.ELen, api.EGetInt, api.EGetStr, api.EHas)
			default:
				node.Op = api.EEq + g.IntN(api.EOr-api.EEq+1)
			}
		}
		return e
	}
}

// anEval has the arguments of Eval.
type anEval struct {
	e           api.Expr
	vars, pairs []api.Pair
	foot        api.Footprint
}

// randomEvals returns the same evaluations each time.
func randomEvals(number int) []anEval {
	var l []anEval
	for i := range number {
		g := newGenerator(i + 1<<30)
		g.oddities = 60
		x := anEval{vars: similar(), pairs: g.state()}
		g.Shuffle(len(x.vars), func(i, j int) { x.vars[i], x.vars[j] = x.vars[j], x.vars[i] })
		x.vars[0].Val = some(g, integer(-1), integer(math.MinInt64), str("i0"), str(long(60)), boolean(true))
		x.e = g.tree()
		_, effect := definedEval(x.e, x.vars, x.pairs, everything())
		x.foot = g.footprint(effect)
		l = append(l, x)
	}
	return l
}

// TestP15_1Random compares random evaluations with the definition.
func TestP15_1Random(t *testing.T) {
	counts := map[string]int{}
	for _, x := range randomEvals(20000) {
		v, want := definedEval(x.e, x.vars, x.pairs, x.foot)
		checkEval(t, x.e, x.vars, x.pairs, x.foot, v, want)
		counts[fmt.Sprint(want.Outcome.Status, " ", want.Outcome.Code)]++
		counts[fmt.Sprint("value ", v.Kind)]++
		if len(want.Reads) > 1 {
			counts[fmt.Sprint("reads ", want.Outcome.Status)]++
		}
	}
	for _, what := range []string{"1 0", "3 0", "2 1001", "2 1002", "2 1003", "2 1004", "2 1006", "2 1009", "value 1", "value 2", "value 3", "reads 1", "reads 2", "reads 3"} {
		if counts[what] < 40 {
			t.Errorf("%d evaluations are of the kind: %s", counts[what], what)
		}
	}
}
