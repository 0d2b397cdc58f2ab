package dataflow

import (
	"clockwork/api"
	"clockwork/parser"
	"clockwork/types"
	"fmt"
	"math/rand/v2"
	"slices"
	"strings"
	"testing"
)

// variable is one that the statements may use.
type variable struct {
	name   string
	ty     byte // I, S or B
	isLoop bool
}

// generator makes random procedures.
type generator struct {
	*rand.Rand
	reads   int // reading operators in a thousand places, on average
	errors  int // undeclared variables and wrong types in a thousand places, on average
	blocks  int // levels of blocks
	names   int // that are declared so far
	visible []variable
}

// some returns one of the elements.
func some[E any](g *generator, l ...E) E {
	return l[g.IntN(len(l))]
}

// happens tells whether something is the case in so many of a thousand cases.
func (g *generator) happens(thousandths int) bool {
	return g.IntN(1000) < thousandths
}

// leaf returns a constant of the type, or the name of a variable.
func (g *generator) leaf(ty byte) string {
	l := map[byte][]string{'I': {"1"}, 'S': {`"k"`}, 'B': {"1 == 2"}}[ty]
	for _, x := range g.visible {
		if x.ty == ty {
			l = append(l, x.name, x.name)
		}
	}
	return some(g, l...)
}

// expr returns the text of an expression of the type, of up to this number of levels.
func (g *generator) expr(ty byte, levels int) string {
	if g.happens(g.errors) {
		return some(g, "none", g.leaf('I'), g.leaf('S'), g.leaf('B'))
	}
	if levels <= 1 {
		return g.leaf(ty)
	}
	form := some(g, map[byte][]string{
		'I': {"L", "L", "L", "-I", "I + I", "I % I", "I / I", "len(S)", "now()"},
		'S': {"L", "L", "L", "text(I)", "S ++ S"},
		'B': {"L", "I < I", "S != S", "B == B", "not B", "B and B", "B or B"},
	}[ty]...)
	if g.happens(g.reads) {
		form = map[byte]string{'I': "getint(S)", 'S': "getstr(S)", 'B': "has(S)"}[ty]
	}
	var b strings.Builder
	for _, c := range []byte(form) {
		switch c {
		case 'I', 'S', 'B':
			b.WriteString("(" + g.expr(c, levels-1) + ")")
		case 'L':
			b.WriteString(g.leaf(ty))
		default:
			b.WriteByte(c)
		}
	}
	return b.String()
}

// declare returns the name of a new variable. The names are in no order.
func (g *generator) declare(ty byte, isLoop bool) string {
	g.names++
	name := fmt.Sprintf("%c%d", 'a'+g.IntN(26), g.names)
	g.visible = append(g.visible, variable{name, ty, isLoop})
	return name
}

// block returns the text of a block of up to this number of statements, in which there are up to so many levels of blocks.
func (g *generator) block(most, blocks int) string {
	outer := len(g.visible)
	text := ""
	for range g.IntN(most + 1) {
		text += g.stmt(most, blocks)
	}
	g.visible = g.visible[:outer]
	return "{" + text + "}"
}

// stmt returns the text of a statement with up to so many levels of blocks in it.
func (g *generator) stmt(most, blocks int) string {
	ty := some(g, []byte("IISB")...)
	key, value := g.expr('S', 1+g.IntN(3)), g.expr(ty, 1+g.IntN(4))
	stored := g.expr(some(g, []byte("IS")...), 1+g.IntN(3))
	if blocks > 0 && g.IntN(3) == 0 {
		return g.branch(most, blocks)
	}
	switch g.IntN(10) {
	case 0:
		return "put " + key + " = " + stored + ";"
	case 1:
		return some(g, "delete "+key, "emit "+stored, "abort 1") + ";"
	case 2, 3, 4, 5:
		return "let " + g.declare(ty, false) + " = " + value + ";"
	}
	isOther := func(x variable) bool { return x.ty != ty || x.isLoop && !g.happens(g.errors) }
	l := slices.DeleteFunc(slices.Clone(g.visible), isOther)
	if len(l) == 0 {
		return ""
	}
	return some(g, l...).name + " = " + value + ";"
}

// branch returns the text of an if or a for statement.
func (g *generator) branch(most, blocks int) string {
	if g.IntN(2) == 0 {
		text := "if " + g.expr('B', 1+g.IntN(4)) + " " + g.block(most, blocks-1)
		return text + some(g, "", " else "+g.block(most, blocks-1))
	}
	from, to := g.expr('I', 1+g.IntN(3)), g.expr('I', 1+g.IntN(3))
	outer := len(g.visible)
	text := fmt.Sprintf("for %s = %s to %s max %d ", g.declare('I', true), from, to, 1+g.IntN(3))
	text += g.block(most, blocks-1)
	g.visible = g.visible[:outer]
	return text
}

// proc returns a procedure with the parameters s: str and n: int.
func (g *generator) proc(most int) api.Proc {
	for {
		g.names, g.visible = 0, []variable{{"s", 'S', false}, {"n", 'I', false}}
		p, _, e := parser.Proc("proc p(s: str, n: int) " + g.block(most, g.blocks))
		if e == api.OK {
			return p
		}
	}
}

// randomProcs returns the same procedures each time, of different sizes, with many and with few reading operators, with errors and without.
func randomProcs(number int) []api.Proc {
	var l []api.Proc
	for i := range number {
		g := &generator{Rand: rand.New(rand.NewPCG(14, uint64(i)))}
		g.reads, g.errors, g.blocks = []int{30, 60, 120, 300}[i%4], i%5/4*10, 1+i%3
		l = append(l, g.proc(2+i%7))
	}
	return l
}

// TestP14Random compares random procedures with the definition.
func TestP14Random(t *testing.T) {
	counts := map[string]int{}
	count := func(holds bool, what string) {
		if holds {
			counts[what]++
		}
	}
	for _, p := range randomProcs(20000) {
		want := definedResults(p)
		checkProc(t, p, want)
		if types.Check(p) != api.OK {
			counts["error"]++
			continue
		}
		all, tainted := len(types.Vars(p)), len(strings.Fields(want.tainted))
		count(tainted == 0, "no variable")
		count(tainted > 0 && tainted < all, "some variables")
		count(tainted == all, "all variables")
		count(strings.HasPrefix(want.tainted, "s"), "parameter")
		count(want.keys, "key")
		count(want.independent, "independent")
		count(want.control, "branch")
		count(want.independent && !want.control && tainted > 1, "neither key nor branch")
	}
	for _, what := range []string{"error", "no variable", "some variables", "all variables", "parameter", "key", "independent", "branch", "neither key nor branch"} {
		if counts[what] < 300 {
			t.Errorf("%d procedures are of the kind: %s", counts[what], what)
		}
	}
}
