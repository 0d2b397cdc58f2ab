package parser

import (
	"clockwork/api"
	"clockwork/ast"
	"clockwork/lexer"
	"reflect"
	"slices"
	"strings"
	"testing"
)

// The tests write the limits out, where the package computes with them.
const (
	mostSource = 16384
	mostString = 64
	mostDepth  = 12
	mostNodes  = 400
	mostParams = 6
	mostProcs  = 16
	mostInside = 24 // nestings around one
	mostLoop   = 16
	mostCode   = 999
)

// The symbols of the grammar that the functions read.
const (
	symbolExpr    = "or1"
	symbolProc    = "procedure"
	symbolProgram = "program"
)

// grammar is the chapter's table. "x<" and "b<" stand where a nesting of expressions and a block begin, ">" where they end.
const grammar = `
program = { procedure }
procedure = "proc" NAME "(" [ parameter { "," parameter } ] ")" block
parameter = NAME ":" ( "int" | "str" | "bool" )
block = b< "{" { statement } "}" >
statement = "let" NAME "=" or1 ";" | NAME "=" or1 ";" | "put" or1 "=" or1 ";" | "delete" or1 ";" | "if" or1 block [ "else" block ] | "for" NAME "=" or1 "to" or1 "max" INT block | "emit" or1 ";" | "abort" INT ";"
or1 = and2 { "or" and2 }
and2 = not3 { "and" not3 }
not3 = x< "not" not3 > | cmp4
cmp4 = cat5 [ ( "==" | "!=" | "<" | "<=" | ">" | ">=" ) cat5 ]
cat5 = sum6 { "++" sum6 }
sum6 = mul7 { ( "+" | "-" ) mul7 }
mul7 = neg8 { ( "*" | "/" | "%" ) neg8 }
neg8 = x< "-" neg8 > | unit9
unit9 = INT | STR | NAME | x< "(" or1 ")" > | x< ( "text" | "len" | "getint" | "getstr" | "has" ) "(" or1 ")" > | ( "now" | "random" | "node" ) "(" ")"
`

// form is a part of the table: a word of it, a list of parts of which the kind is one, or the end of a nesting.
type form struct {
	kind  string
	parts []form
}

// The kinds of forms besides words.
const (
	formChoice   = "|"
	formSequence = " "
	formGroup    = "("
	formRepeat   = "{"
	formOption   = "["
	formExpr     = "x<"
	formBlock    = "b<"
	formExprEnd  = "x>"
	formBlockEnd = "b>"
)

var (
	closers = map[string]string{formGroup: ")", formRepeat: "}", formOption: "]", formExpr: ">", formBlock: ">"}
	ends    = map[string]string{formExpr: formExprEnd, formBlock: formBlockEnd}
	rules   = readGrammar()
)

func readGrammar() map[string]*form {
	table := map[string]*form{}
	for line := range strings.Lines(strings.TrimSpace(grammar)) {
		words := strings.Fields(line)
		f, _ := readChoice(words[2:])
		table[words[0]] = &f
	}
	return table
}

// readChoice returns the form of the words up to one that closes it, and the words from there on.
func readChoice(words []string) (form, []string) {
	choice := form{kind: formChoice, parts: []form{{kind: formSequence}}}
	for len(words) > 0 && !slices.Contains([]string{")", "}", "]", ">"}, words[0]) {
		word := words[0]
		words = words[1:]
		if word == "|" {
			choice.parts = append(choice.parts, form{kind: formSequence})
			continue
		}
		f := form{kind: word}
		if closer := closers[word]; closer != "" {
			inner, rest := readChoice(words)
			if rest[0] != closer {
				panic("the grammar closes " + word + " with " + rest[0])
			}
			f.parts, words = []form{inner}, rest[1:]
		}
		last := &choice.parts[len(choice.parts)-1]
		last.parts = append(last.parts, f)
	}
	return choice, words
}

// stack is a list of forms of which the next tokens must be.
type stack struct {
	top   *form
	below *stack
}

func push(f *form, s *stack) *stack {
	return &stack{f, s}
}

// step is what a token leaves to be read, the kind of the nesting that begins with it, and how many of this kind are around it.
type step struct {
	rest   *stack
	begins string
	around int
}

// after returns a step for each way in which the word of a token goes on.
func after(s *stack, word string) []step {
	if s == nil {
		return nil
	}
	f, below := s.top, s.below
	switch f.kind {
	case formChoice:
		var l []step
		for i := range f.parts {
			l = append(l, after(push(&f.parts[i], below), word)...)
		}
		return l
	case formSequence:
		for i := range slices.Backward(f.parts) {
			below = push(&f.parts[i], below)
		}
		return after(below, word)
	case formGroup:
		return after(push(&f.parts[0], below), word)
	case formRepeat:
		return append(after(push(&f.parts[0], s), word), after(below, word)...)
	case formOption:
		return append(after(push(&f.parts[0], below), word), after(below, word)...)
	case formExpr, formBlock:
		end := &form{kind: ends[f.kind]}
		l := after(push(&f.parts[0], push(end, below)), word)
		for i := range l {
			l[i].begins, l[i].around = f.kind, count(below, end.kind)
		}
		return l
	case formExprEnd, formBlockEnd:
		return after(below, word)
	case word:
		return []step{{rest: below}}
	}
	if rule := rules[f.kind]; rule != nil {
		return after(push(rule, below), word)
	}
	return nil
}

// count returns how many forms of s have the kind.
func count(s *stack, kind string) int {
	n := 0
	for ; s != nil; s = s.below {
		if s.top.kind == kind {
			n++
		}
	}
	return n
}

// mayEnd tells whether nothing need be read for s.
func mayEnd(s *stack) bool {
	for ; s != nil; s = s.below {
		if !mayBeEmpty(*s.top) {
			return false
		}
	}
	return true
}

func mayBeEmpty(f form) bool {
	isFull := func(f form) bool { return !mayBeEmpty(f) }
	switch f.kind {
	case formRepeat, formOption, formExprEnd, formBlockEnd:
		return true
	case formChoice:
		return slices.ContainsFunc(f.parts, mayBeEmpty)
	case formSequence, formGroup, formExpr, formBlock:
		return !slices.ContainsFunc(f.parts, isFull)
	}
	rule := rules[f.kind]
	return rule != nil && mayBeEmpty(*rule)
}

// wordOf returns the word of the table that stands for t.
func wordOf(t api.Token) string {
	switch t.Kind {
	case api.TkName:
		return "NAME"
	case api.TkInt:
		return "INT"
	case api.TkStr:
		return "STR"
	default:
		return `"` + t.Text + `"`
	}
}

// errorOf is the definition of the error of a list of tokens.
func errorOf(symbol string, tokens []api.Token) (int, api.Errno) {
	s := push(rules[symbol], nil)
	line := 1
	for _, t := range tokens {
		line = t.Line
		steps := after(s, wordOf(t))
		if len(steps) == 0 {
			return line, api.ErrSyntax
		}
		if len(steps) > 1 {
			panic("there are two forms of the same tokens")
		}
		next := steps[0]
		if next.begins == formExpr && next.around >= mostInside || next.begins == formBlock && next.around > mostDepth {
			return line, api.ErrLimit
		}
		s = next.rest
	}
	if !mayEnd(s) {
		return line, api.ErrTruncated
	}
	return 0, api.OK
}

// The following functions make the tree of tokens that have no error. They divide the tokens at the operator that is applied last, and at the ends of statements.

// infixes are the operators between two operands, from those that are applied last. The empty places are those of the prefixes.
var infixes = []map[string]int{
	{"or": api.EOr},
	{"and": api.EAnd},
	{},
	{"==": api.EEq, "!=": api.ENe, "<": api.ELt, "<=": api.ELe, ">": api.EGt, ">=": api.EGe},
	{"++": api.ECat},
	{"+": api.EAdd, "-": api.ESub},
	{"*": api.EMul, "/": api.EDiv, "%": api.EMod},
	{},
}

// prefixes are the operators in front of one operand, by their places among the infixes.
var prefixes = map[int]struct {
	text string
	op   int
}{2: {"not", api.ENot}, 7: {"-", api.ENeg}}

var calls = map[string]int{"text": api.EText, "len": api.ELen, "getint": api.EGetInt, "getstr": api.EGetStr, "has": api.EHas, "now": api.ENow, "random": api.ERandom, "node": api.ENode}

// is tells whether t is the keyword or mark.
func is(t api.Token, text string) bool {
	return t.Kind != api.TkStr && t.Text == text
}

// exprOf is the definition of the tree of an expression.
func exprOf(l []api.Token) api.Expr {
	for level, ops := range infixes {
		if prefix, ok := prefixes[level]; ok && is(l[0], prefix.text) {
			return apply(prefix.op, exprOf(l[1:]))
		}
		if i := lastInfix(l, ops); i > 0 {
			return apply(ops[l[i].Text], exprOf(l[:i]), exprOf(l[i+1:]))
		}
	}
	switch {
	case l[0].Kind == api.TkInt:
		return number(l[0].N)
	case l[0].Kind == api.TkStr:
		return text(l[0].Text)
	case l[0].Kind == api.TkName:
		return variable(l[0].Text)
	case is(l[0], "("):
		return exprOf(l[1 : len(l)-1])
	case len(l) == 3:
		return apply(calls[l[0].Text])
	default:
		return apply(calls[l[0].Text], exprOf(l[2:len(l)-1]))
	}
}

// lastInfix returns the index of the last of the operators behind an operand and outside of parentheses, or 0.
func lastInfix(l []api.Token, ops map[string]int) int {
	open := 0
	for i := len(l) - 1; i > 0; i-- {
		switch before := l[i-1]; {
		case is(l[i], ")"):
			open++
		case is(l[i], "("):
			open--
		case open > 0 || l[i].Kind == api.TkStr || ops[l[i].Text] == 0:
		case before.Kind == api.TkInt || before.Kind == api.TkStr || before.Kind == api.TkName || is(before, ")"):
			return i
		}
	}
	return 0
}

// find returns the index of the first keyword or mark with the text.
func find(l []api.Token, text string) int {
	return slices.IndexFunc(l, func(t api.Token) bool { return is(t, text) })
}

// endOf returns the index behind the first block of l.
func endOf(l []api.Token) int {
	open := 0
	for i := range l {
		if is(l[i], "{") {
			open++
		} else if is(l[i], "}") {
			if open--; open == 0 {
				return i + 1
			}
		}
	}
	panic("a block has no end")
}

// stmtsOf is the definition of the trees of statements.
func stmtsOf(l []api.Token) []api.Stmt {
	var body []api.Stmt
	for len(l) > 0 {
		n := find(l, ";") + 1
		if is(l[0], "if") || is(l[0], "for") {
			n = endOf(l)
			if n < len(l) && is(l[n], "else") {
				n += endOf(l[n:])
			}
		}
		body = append(body, stmtOf(l[:n]))
		l = l[n:]
	}
	return body
}

// maxOf returns the Max of a statement. An int may have 32 bits only; what has more is not valid, like all that is greater than 999.
func maxOf(t api.Token) int {
	return int(min(t.N, mostCode+1))
}

// stmtOf does the same for one of them.
func stmtOf(l []api.Token) api.Stmt {
	last := len(l) - 1
	switch {
	case is(l[0], "let"):
		return let(l[1].Text, exprOf(l[3:last]))
	case is(l[0], "put"):
		i := find(l, "=")
		return put(exprOf(l[1:i]), exprOf(l[i+1:last]))
	case is(l[0], "delete"):
		return remove(exprOf(l[1:last]))
	case is(l[0], "emit"):
		return emit(exprOf(l[1:last]))
	case is(l[0], "abort"):
		return abort(maxOf(l[1]))
	case is(l[0], "for"):
		to, most, open := find(l, "to"), find(l, "max"), find(l, "{")
		return loop(l[1].Text, exprOf(l[3:to]), exprOf(l[to+1:most]), maxOf(l[most+1]), stmtsOf(l[open+1:last])...)
	case is(l[0], "if"):
		open, end := find(l, "{"), endOf(l)
		s := when(exprOf(l[1:open]), stmtsOf(l[open+1:end-1]), nil)
		if end < len(l) {
			s.Else = stmtsOf(l[end+2 : last])
		}
		return s
	default:
		return set(l[0].Text, exprOf(l[2:last]))
	}
}

// procsOf is the definition of the trees of procedures.
func procsOf(l []api.Token) []api.Proc {
	var procs []api.Proc
	for len(l) > 0 {
		open, end := find(l, "{"), endOf(l)
		p := api.Proc{Name: l[1].Text, Body: stmtsOf(l[open+1 : end-1])}
		for i := 3; i < open-1; i += 4 {
			p.Params = append(p.Params, param(l[i].Text, map[string]int{"int": api.TyInt, "str": api.TyStr, "bool": api.TyBool}[l[i+2].Text]))
		}
		procs = append(procs, p)
		l = l[end:]
	}
	return procs
}

// wrong returns the result of a function for a tree with this error.
func wrong(e api.Errno) ([]api.Proc, int, api.Errno) {
	return nil, 0, e
}

// definition returns what the function of the symbol must return. An expression is emitted by a procedure.
func definition(symbol, src string) ([]api.Proc, int, api.Errno) {
	tokens, line, e := lexer.Tokenize(src)
	if e != api.OK {
		return nil, line, e
	}
	if line, e := errorOf(symbol, tokens); e != api.OK {
		return nil, line, e
	}
	if symbol == symbolExpr {
		tree := exprOf(tokens)
		if e := ast.ValidExpr(tree); e != api.OK {
			return wrong(e)
		}
		return emitted(tree), 0, api.OK
	}
	l := procsOf(tokens)
	if symbol == symbolProgram && len(l) > mostProcs {
		return wrong(api.ErrLimit)
	}
	names := map[string]bool{}
	for _, p := range l {
		if e := ast.Validate(p); e != api.OK {
			return wrong(e)
		}
		if names[p.Name] {
			return wrong(api.ErrDuplicate)
		}
		names[p.Name] = true
	}
	return l, 0, api.OK
}

// call returns the result of the function of the symbol, likewise.
func call(symbol, src string) ([]api.Proc, int, api.Errno) {
	switch symbol {
	case symbolExpr:
		tree, line, e := Expr(src)
		if e != api.OK && reflect.DeepEqual(tree, api.Expr{}) {
			return nil, line, e
		}
		return emitted(tree), line, e
	case symbolProc:
		tree, line, e := Proc(src)
		if e != api.OK && reflect.DeepEqual(tree, api.Proc{}) {
			return nil, line, e
		}
		return []api.Proc{tree}, line, e
	default:
		return Program(src)
	}
}

// check requires the defined result, and returns it.
func check(t *testing.T, symbol, src string) ([]api.Proc, int, api.Errno) {
	t.Helper()
	want, wantLine, wantError := definition(symbol, src)
	got, line, e := call(symbol, src)
	if line != wantLine || e != wantError || !slices.EqualFunc(got, want, ast.Equal) {
		t.Fatalf("%s of %q:\n%+v, line %d, error %d; want\n%+v, line %d, error %d", symbol, src, got, line, e, want, wantLine, wantError)
	}
	return got, line, e
}

// checkError requires an error.
func checkError(t *testing.T, symbol, src string, line int, e api.Errno) {
	t.Helper()
	if _, gotLine, got := check(t, symbol, src); gotLine != line || got != e {
		t.Fatalf("%s of %q: line %d, error %d; want line %d, error %d", symbol, src, gotLine, got, line, e)
	}
}

// checkProgram requires procedures.
func checkProgram(t *testing.T, src string, want ...api.Proc) {
	t.Helper()
	if got, _, e := check(t, symbolProgram, src); e != api.OK || !slices.EqualFunc(got, want, ast.Equal) {
		t.Fatalf("the program %q:\n%+v, error %d; want\n%+v", src, got, e, want)
	}
}

// checkProcAlone requires a procedure.
func checkProcAlone(t *testing.T, src string, want api.Proc) {
	t.Helper()
	if got, _, e := check(t, symbolProc, src); e != api.OK || !ast.Equal(got[0], want) {
		t.Fatalf("the procedure %q:\n%+v, error %d; want\n%+v", src, got, e, want)
	}
}

// checkProc requires a procedure, alone and in programs.
func checkProc(t *testing.T, src string, want api.Proc) {
	t.Helper()
	checkProcAlone(t, src, want)
	other := api.Proc{Name: "other"}
	checkProgram(t, src, want)
	checkProgram(t, "proc other() {} "+src+"\nproc others() {}", other, want, api.Proc{Name: "others"})
}

// checkStmts requires statements, in the body of a procedure and in other statements.
func checkStmts(t *testing.T, src string, want ...api.Stmt) {
	t.Helper()
	checkProc(t, "proc p() {"+src+"}", proc(want...))
	checkProc(t, "proc p() { abort 1; "+src+" abort 2; "+src+"}", proc(slices.Concat(stmts(abort(1)), want, stmts(abort(2)), want)...))
	checkProc(t, "proc p() { if a {"+src+"} else { abort 1;"+src+"}}", proc(when(a, want, append(stmts(abort(1)), want...))))
	checkProc(t, "proc p() { for i = 0 to 1 max 1 { if a {} else {"+src+"}}"+src+"}", proc(append(stmts(loop("i", number(0), number(1), 1, when(a, nil, want))), want...)...))
}

// checkExpr requires an expression, alone and in each place of statements.
func checkExpr(t *testing.T, src string, want api.Expr) {
	t.Helper()
	if got, _, e := check(t, symbolExpr, src); e != api.OK || !ast.Equal(got[0], emitted(want)[0]) {
		t.Fatalf("the expression %q:\n%+v, error %d; want\n%+v", src, got, e, want)
	}
	for _, x := range places() {
		checkProc(t, "proc p() {"+x.text(src)+"}", proc(x.stmt(want)))
	}
}

// place is a place of a statement where an expression stands.
type place struct {
	before, behind string
	stmt           func(e api.Expr) api.Stmt
}

// text returns the text of a statement with the expression.
func (x place) text(src string) string {
	return x.before + " " + src + " " + x.behind
}

func places() []place {
	return []place{
		{"let y =", ";", func(e api.Expr) api.Stmt { return let("y", e) }},
		{"y =", ";", func(e api.Expr) api.Stmt { return set("y", e) }},
		{"put", "= a;", func(e api.Expr) api.Stmt { return put(e, a) }},
		{"put a =", ";", func(e api.Expr) api.Stmt { return put(a, e) }},
		{"delete", ";", remove},
		{"emit", ";", emit},
		{"if", "{}", func(e api.Expr) api.Stmt { return when(e, nil, nil) }},
		{"for i =", "to a max 1 {}", func(e api.Expr) api.Stmt { return loop("i", e, a, 1) }},
		{"for i = a to", "max 1 {}", func(e api.Expr) api.Stmt { return loop("i", a, e, 1) }},
	}
}

var a, b, c, d = variable("a"), variable("b"), variable("c"), variable("d")

func number(n int64) api.Expr {
	return api.Expr{Op: api.EInt, N: n}
}

func text(s string) api.Expr {
	return api.Expr{Op: api.EStr, S: s}
}

func variable(s string) api.Expr {
	return api.Expr{Op: api.EVar, S: s}
}

func let(name string, a api.Expr) api.Stmt {
	return api.Stmt{Op: api.SLet, Name: name, A: a}
}

func set(name string, a api.Expr) api.Stmt {
	return api.Stmt{Op: api.SSet, Name: name, A: a}
}

func put(a, b api.Expr) api.Stmt {
	return api.Stmt{Op: api.SPut, A: a, B: b}
}

func remove(a api.Expr) api.Stmt {
	return api.Stmt{Op: api.SDelete, A: a}
}

func when(a api.Expr, then, otherwise []api.Stmt) api.Stmt {
	return api.Stmt{Op: api.SIf, A: a, Body: then, Else: otherwise}
}

func loop(name string, a, b api.Expr, most int, body ...api.Stmt) api.Stmt {
	return api.Stmt{Op: api.SFor, Name: name, A: a, B: b, Max: most, Body: body}
}

func emit(a api.Expr) api.Stmt {
	return api.Stmt{Op: api.SEmit, A: a}
}

func abort(code int) api.Stmt {
	return api.Stmt{Op: api.SAbort, Max: code}
}

func stmts(l ...api.Stmt) []api.Stmt {
	return l
}

func proc(body ...api.Stmt) api.Proc {
	return api.Proc{Name: "p", Body: body}
}

func param(name string, ty int) api.Param {
	return api.Param{Name: name, Type: ty}
}

// emitted returns a procedure that has the expression, so that expressions can be compared as procedures are.
func emitted(e api.Expr) []api.Proc {
	return []api.Proc{proc(emit(e))}
}
