package interp

import (
	"clockwork/api"
	"clockwork/cost"
	"clockwork/parser"
	"clockwork/printer"
	"clockwork/types"
	"fmt"
	"maps"
	"math/big"
	"reflect"
	"regexp"
	"slices"
	"strings"
	"testing"
)

// The tests write limits out, where the package computes with them.
const (
	mostSteps  = 16384
	mostKeys   = 64
	mostEmits  = 16
	mostString = 64
	mostDepth  = 12
	mostLevels = 65536 // of nesting, of which the document promises something
)

var (
	validKey    = regexp.MustCompile(`^[a-z0-9/._-]{1,24}$`)
	validString = regexp.MustCompile(`^[ -~]{0,64}$`)
)

// stop is the code with which an operator ends a run.
type stop int

// task is a statement that is to be executed, or the iterations of a for statement that are left.
type task struct {
	stmt     api.Stmt
	loops    bool
	from, to *big.Int
}

// machine executes procedures as DOC.md defines it, with a list of tasks instead of nested calls. Its values are big integers, strings and truth values, and nil for nothing.
type machine struct {
	stored       map[string]any
	foot         api.Footprint
	vars         map[string]any
	meanings     map[int][]any
	own          map[string]any
	reads        map[string]bool
	out          []any
	steps        int
	status, code int // 0 while the run goes on
	miss         string
	todo         []task // the last one is the next one
}

// newMachine returns a machine without variables.
func newMachine(pairs []api.Pair, foot api.Footprint) *machine {
	m := &machine{stored: map[string]any{}, foot: foot, vars: map[string]any{}, own: map[string]any{}, reads: map[string]bool{}}
	for _, p := range pairs {
		m.stored[p.Key] = plain(p.Val)
	}
	m.meanings = m.operators()
	return m
}

// plain returns the value as a machine has it.
func plain(v api.Value) any {
	return []any{nil, big.NewInt(v.N), v.S, v.N == 1}[v.Kind]
}

// packed is the reverse of plain.
func packed(x any) api.Value {
	switch x := x.(type) {
	case *big.Int:
		return api.Value{Kind: api.KInt, N: x.Int64()}
	case string:
		return api.Value{Kind: api.KStr, S: x}
	case bool:
		return map[bool]api.Value{false: {Kind: api.KBool}, true: {Kind: api.KBool, N: 1}}[x]
	default:
		return api.Value{}
	}
}

// operators returns the functions of each operator, one for each types of operands.
func (m *machine) operators() map[int][]any {
	signs := func(holds func(sign int) bool) []any {
		return []any{func(a, b *big.Int) any { return holds(a.Cmp(b)) }, func(a, b string) any { return holds(strings.Compare(a, b)) }}
	}
	divided := func(op int) []any {
		return []any{func(a, b *big.Int) any {
			if b.Sign() == 0 {
				return stop(api.AbDivide)
			}
			// The quotient of multiples with a positive divisor is rounded down.
			sign := big.NewInt(int64(b.Sign()))
			q := new(big.Int).Div(new(big.Int).Mul(a, sign), new(big.Int).Abs(b))
			return map[int]any{api.EDiv: q, api.EMod: new(big.Int).Sub(a, new(big.Int).Mul(b, q))}[op]
		}}
	}
	return map[int][]any{
		api.EAdd:    {func(a, b *big.Int) any { return new(big.Int).Add(a, b) }},
		api.ESub:    {func(a, b *big.Int) any { return new(big.Int).Sub(a, b) }},
		api.EMul:    {func(a, b *big.Int) any { return new(big.Int).Mul(a, b) }},
		api.EDiv:    divided(api.EDiv),
		api.EMod:    divided(api.EMod),
		api.ENeg:    {func(a *big.Int) any { return new(big.Int).Neg(a) }},
		api.EEq:     append(signs(func(sign int) bool { return sign == 0 }), func(a, b bool) any { return a == b }),
		api.ENe:     append(signs(func(sign int) bool { return sign != 0 }), func(a, b bool) any { return a != b }),
		api.ELt:     signs(func(sign int) bool { return sign == -1 }),
		api.ELe:     signs(func(sign int) bool { return sign != 1 }),
		api.EGt:     signs(func(sign int) bool { return sign == 1 }),
		api.EGe:     signs(func(sign int) bool { return sign != -1 }),
		api.EAnd:    {func(a, b bool) any { return a && b }},
		api.EOr:     {func(a, b bool) any { return a || b }},
		api.ENot:    {func(a bool) any { return !a }},
		api.ECat:    {func(a, b string) any { return strings.Join([]string{a, b}, "") }},
		api.EText:   {func(a *big.Int) any { return a.String() }},
		api.ELen:    {func(a string) any { return big.NewInt(int64(strings.Count(a, "") - 1)) }},
		api.EGetInt: {func(key string) any { return valueOr(m.get(key), new(big.Int)) }},
		api.EGetStr: {func(key string) any { return valueOr(m.get(key), "") }},
		api.EHas:    {func(key string) any { return valueOr(m.get(key) != nil, false) }},
	}
}

// valueOr returns x, or zero if x is nothing, or a stop if x has another type.
func valueOr(x, zero any) any {
	switch {
	case x == nil:
		return zero
	case reflect.TypeOf(x) != reflect.TypeOf(zero):
		return stop(api.AbType)
	default:
		return x
	}
}

// end ends the run, unless it has ended already.
func (m *machine) end(status, code int, miss string) {
	if m.status == 0 {
		m.status, m.code, m.miss = status, code, miss
	}
}

// mayAccess tells whether the key is valid and allowed, and ends the run if it is not.
func (m *machine) mayAccess(key string, allowed []string) bool {
	switch {
	case !validKey.MatchString(key):
		m.end(api.StAbort, api.AbKey, "")
	case !m.foot.All && !slices.Contains(allowed, key):
		m.end(api.StRestart, 0, key)
	}
	return m.status == 0
}

// get returns what the run sees at the key, which is nothing if that ends the run.
func (m *machine) get(key string) any {
	if x, ok := m.own[key]; ok {
		return x
	}
	if !m.mayAccess(key, m.foot.Reads) {
		return nil
	}
	m.reads[key] = true
	return m.stored[key]
}

// postfix lists the nodes of e, operands before their operators.
func postfix(e api.Expr) []api.Expr {
	var l []api.Expr
	for _, arg := range e.Args {
		l = append(l, postfix(arg)...)
	}
	return append(l, e)
}

// value returns the value of e, which is nil if the run ends.
func (m *machine) value(e api.Expr) any {
	var stack []any
	for _, node := range postfix(e) {
		if m.status != 0 {
			return nil
		}
		first := len(stack) - len(node.Args)
		result := m.result(node, stack[first:])
		if code, ok := result.(stop); ok {
			m.end(api.StAbort, int(code), "")
		}
		stack = append(stack[:first], result)
	}
	if m.status != 0 {
		return nil
	}
	return stack[0]
}

// result returns the result of a node, or a stop.
func (m *machine) result(node api.Expr, operands []any) any {
	switch node.Op {
	case api.EInt:
		return big.NewInt(node.N)
	case api.EStr:
		return node.S
	case api.EVar:
		if x, ok := m.vars[node.S]; ok {
			return x
		}
	}
	var in []reflect.Value
	for _, x := range operands {
		in = append(in, reflect.ValueOf(x))
	}
	for _, f := range m.meanings[node.Op] {
		fits := true
		for i, x := range in {
			fits = fits && reflect.TypeOf(f).In(i) == x.Type()
		}
		if fits {
			return limited(reflect.ValueOf(f).Call(in)[0].Interface())
		}
	}
	return stop(api.AbProc)
}

// limited returns x, or a stop if there is no such value.
func limited(x any) any {
	if n, ok := x.(*big.Int); ok && !n.IsInt64() {
		return stop(api.AbOverflow)
	}
	if s, ok := x.(string); ok && len(s) > mostString {
		return stop(api.AbString)
	}
	return x
}

// plan makes the statements the next tasks.
func (m *machine) plan(body []api.Stmt) {
	for _, s := range slices.Backward(body) {
		m.todo = append(m.todo, task{stmt: s})
	}
}

// run executes the statements.
func (m *machine) run(body []api.Stmt) {
	m.plan(body)
	for m.status == 0 && len(m.todo) > 0 {
		next := m.todo[len(m.todo)-1]
		m.todo = m.todo[:len(m.todo)-1]
		if next.loops && next.from.Cmp(next.to) >= 0 {
			continue
		}
		m.steps++
		switch {
		case m.steps > mostSteps:
			m.end(api.StAbort, api.AbFuel, "")
		case next.loops:
			m.vars[next.stmt.Name] = next.from
			m.todo = append(m.todo, task{next.stmt, true, new(big.Int).Add(next.from, big.NewInt(1)), next.to})
			m.plan(next.stmt.Body)
		default:
			m.execute(next.stmt)
		}
	}
	m.end(api.StCommit, 0, "")
}

// execute executes s, but leaves the statements in it as tasks.
func (m *machine) execute(s api.Stmt) {
	var l []any
	for _, e := range []api.Expr{s.A, s.B} {
		if e.Op != 0 {
			l = append(l, m.value(e))
		}
	}
	if m.status != 0 {
		return
	}
	switch s.Op {
	case api.SLet, api.SSet:
		m.vars[s.Name] = l[0]
	case api.SPut, api.SDelete:
		if key := l[0].(string); m.mayAccess(key, m.foot.Writes) {
			m.own[key] = append(l, nil)[1]
		}
	case api.SIf:
		m.plan(map[bool][]api.Stmt{true: s.Body, false: s.Else}[l[0].(bool)])
	case api.SFor:
		from, to := l[0].(*big.Int), l[1].(*big.Int)
		if new(big.Int).Sub(to, from).Cmp(big.NewInt(int64(s.Max))) > 0 {
			m.end(api.StAbort, api.AbLoop, "")
		}
		m.todo = append(m.todo, task{s, true, from, to})
	case api.SEmit:
		if len(m.out) == mostEmits {
			m.end(api.StAbort, api.AbEmit, "")
		}
		m.out = append(m.out, l[0])
	case api.SAbort:
		m.end(api.StAbort, s.Max, "")
	}
}

// effect returns the effect of the run, which has ended.
func (m *machine) effect() api.Effect {
	e := api.Effect{Outcome: api.Outcome{Status: m.status, Code: m.code}, Miss: m.miss, Steps: m.steps}
	e.Reads, e.Puts = slices.Sorted(maps.Keys(m.reads)), slices.Sorted(maps.Keys(m.own))
	if m.status == api.StCommit {
		for _, x := range m.out {
			e.Outcome.Out = append(e.Outcome.Out, packed(x))
		}
		for _, key := range e.Puts {
			e.Writes = append(e.Writes, api.Pair{Key: key, Val: packed(m.own[key])})
		}
	}
	return e
}

// isState is the definition of a valid state.
func isState(l []api.Pair) bool {
	for i, p := range l {
		isInt := p.Val.Kind == api.KInt && p.Val.S == ""
		isStr := p.Val.Kind == api.KStr && p.Val.N == 0 && validString.MatchString(p.Val.S)
		if i > 0 && l[i-1].Key >= p.Key || !validKey.MatchString(p.Key) || !isInt && !isStr {
			return false
		}
	}
	return true
}

// isFoot is the definition of a valid footprint.
func isFoot(f api.Footprint) bool {
	for _, l := range [][]string{f.Reads, f.Writes} {
		isWrong := func(key string) bool { return f.All || !validKey.MatchString(key) }
		isSet := slices.IsSorted(l) && len(slices.Compact(slices.Clone(l))) == len(l)
		if len(l) > mostKeys || !isSet || slices.ContainsFunc(l, isWrong) {
			return false
		}
	}
	return true
}

// rejection is the outcome AbProc.
func rejection() api.Effect {
	return api.Effect{Outcome: api.Outcome{Status: 2, Code: 1009}}
}

// definedRun is the definition of Run.
func definedRun(p api.Proc, args []api.Value, pairs []api.Pair, foot api.Footprint) api.Effect {
	if cost.Check(p) != api.OK || types.Args(p, args) != api.OK || !isState(pairs) || !isFoot(foot) {
		return rejection()
	}
	m := newMachine(pairs, foot)
	for i, x := range p.Params {
		m.vars[x.Name] = plain(args[i])
	}
	m.run(p.Body)
	return m.effect()
}

// definedEval is the definition of Eval for valid expressions and variables.
func definedEval(e api.Expr, vars, pairs []api.Pair, foot api.Footprint) (api.Value, api.Effect) {
	if !isState(pairs) || !isFoot(foot) {
		return api.Value{}, rejection()
	}
	m := newMachine(pairs, foot)
	for _, x := range vars {
		if _, ok := m.vars[x.Key]; !ok {
			m.vars[x.Key] = plain(x.Val)
		}
	}
	x := m.value(e)
	m.end(api.StCommit, 0, "")
	return packed(x), m.effect()
}

// describe returns the text of an effect, in which nil and empty lists are equal.
func describe(e api.Effect) string {
	status := map[int]string{1: "commit", 2: "abort", 3: "restart"}[e.Outcome.Status]
	return fmt.Sprintf("%s %d, out %q, reads %q, puts %q, writes %q, miss %q, %d steps", status, e.Outcome.Code, texts(e.Outcome.Out), e.Reads, e.Puts, pairTexts(e.Writes), e.Miss, e.Steps)
}

// valueText returns the text of any value.
func valueText(v api.Value) string {
	return fmt.Sprintf("%d %d %s", v.Kind, v.N, v.S)
}

// texts returns the texts of the values.
func texts(l []api.Value) []string {
	var list []string
	for _, v := range l {
		list = append(list, valueText(v))
	}
	return list
}

// pairTexts returns the texts of the pairs.
func pairTexts(l []api.Pair) []string {
	var list []string
	for _, p := range l {
		list = append(list, p.Key+": "+valueText(p.Val))
	}
	return list
}

// show returns the text of p for messages.
func show(p api.Proc) string {
	if text := printer.Proc(p); text != "" {
		return text
	}
	text := fmt.Sprintf("%+v", p)
	return text[:min(len(text), 2000)]
}

// integer, str and boolean return values.
func integer(n int64) api.Value { return api.Value{Kind: api.KInt, N: n} }

func str(s string) api.Value { return api.Value{Kind: api.KStr, S: s} }

func boolean(b bool) api.Value { return packed(b) }

// everything is the footprint that allows everything.
func everything() api.Footprint { return api.Footprint{All: true} }

// expr returns the tree of an expression.
func expr(t *testing.T, text string) api.Expr {
	t.Helper()
	e, _, err := parser.Expr(text)
	if err != api.OK {
		t.Fatalf("the expression %q has the error %d", text, err)
	}
	return e
}

// proc returns the tree of a procedure with the parameters k: str and n: int, and this body.
func proc(t *testing.T, body string) api.Proc {
	t.Helper()
	p, line, e := parser.Proc("proc p(k: str, n: int) {" + body + "}")
	if e != api.OK {
		t.Fatalf("the body %q has the error %d at line %d", body, e, line)
	}
	return p
}

// pairsOf returns a state with these values at the keys, of which an element is one of a pair.
func pairsOf(l ...any) []api.Pair {
	var list []api.Pair
	for i := 0; i < len(l); i += 2 {
		var v api.Value
		switch x := l[i+1].(type) {
		case int:
			v = integer(int64(x))
		case string:
			v = str(x)
		}
		list = append(list, api.Pair{Key: l[i].(string), Val: v})
	}
	return list
}

// checkEffect requires an effect, and that the definition has it, too.
func checkEffect(t *testing.T, got, defined, want api.Effect, of string) {
	t.Helper()
	if describe(got) != describe(want) {
		t.Fatalf("the effect is\n%s, want\n%s, of\n%s", describe(got), describe(want), of)
	}
	if describe(defined) != describe(want) {
		t.Fatalf("the test takes\n%s, and not\n%s, for the effect of\n%s", describe(want), describe(defined), of)
	}
}

// checkRun requires the effect of a run, and that the definition has it, too.
func checkRun(t *testing.T, p api.Proc, args []api.Value, pairs []api.Pair, foot api.Footprint, want api.Effect) {
	t.Helper()
	of := fmt.Sprintf("%swith the arguments %q, the state %q and the footprint %+v", show(p), texts(args), pairTexts(pairs), foot)
	checkEffect(t, Run(p, args, pairs, foot), definedRun(p, args, pairs, foot), want, of)
	if foot.All && isFoot(foot) {
		checkEffect(t, Free(p, args, pairs), want, want, "Free of "+of)
	}
}
