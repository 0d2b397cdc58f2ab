package printer

import (
	"clockwork/api"
	"strconv"
	"strings"
	"testing"
)

// reader reads a text back into the tree whose text it is. Since it goes from left to right and never has a choice, different trees have different texts.
type reader struct {
	t    *testing.T
	rest string
}

// take removes the prefix from the rest, if it has it.
func (r *reader) take(prefix string) bool {
	rest, ok := strings.CutPrefix(r.rest, prefix)
	r.rest = rest
	return ok
}

// expect removes the prefix from the rest, which must have it.
func (r *reader) expect(prefix string) {
	r.t.Helper()
	if !r.take(prefix) {
		r.t.Fatalf("the text goes on with %q instead of %q", r.rest, prefix)
	}
}

// leading removes the bytes of the set from the beginning of the rest.
func (r *reader) leading(set string) string {
	rest := strings.TrimLeft(r.rest, set)
	s := r.rest[:len(r.rest)-len(rest)]
	r.rest = rest
	return s
}

const (
	digits = "0123456789"
	word   = "abcdefghijklmnopqrstuvwxyz_" + digits
)

// infixes are the operators between two operands, by their levels.
var infixes = map[int]map[string]int{
	1: {" or ": api.EOr},
	2: {" and ": api.EAnd},
	4: {" == ": api.EEq, " != ": api.ENe, " < ": api.ELt, " <= ": api.ELe, " > ": api.EGt, " >= ": api.EGe},
	5: {" ++ ": api.ECat},
	6: {" + ": api.EAdd, " - ": api.ESub},
	7: {" * ": api.EMul, " / ": api.EDiv, " % ": api.EMod},
}

var calls = map[string]int{
	"text": api.EText, "len": api.ELen, "getint": api.EGetInt, "getstr": api.EGetStr, "has": api.EHas,
	"now": api.ENow, "random": api.ERandom, "node": api.ENode,
}

// expr reads an expression that has at least this level.
func (r *reader) expr(level int) api.Expr {
	switch {
	case level == 9:
		return r.unit()
	case level == 8 && r.take("-"):
		return apply(api.ENeg, r.expr(8))
	case level == 3 && r.take("not "):
		return apply(api.ENot, r.expr(3))
	}
	e := r.expr(level + 1)
	for op := r.infix(level); op != 0; op = r.infix(level) {
		e = apply(op, e, r.expr(level+1))
		if level == 4 { // a comparison is no operand of another one
			break
		}
	}
	return e
}

// infix reads an operator of this level, and returns 0 if there is none.
func (r *reader) infix(level int) int {
	for s, op := range infixes[level] {
		if r.take(s) {
			return op
		}
	}
	return 0
}

// unit reads an expression that needs no parentheses, or one in parentheses.
func (r *reader) unit() api.Expr {
	if r.take("(") {
		e := r.expr(1)
		r.expect(")")
		return e
	}
	if r.take(`"`) {
		return text(r.contents())
	}
	if s := r.leading(digits); s != "" {
		n, err := strconv.ParseInt(s, 10, 64)
		if err != nil {
			r.t.Fatal(err)
		}
		return number(n)
	}
	s := r.leading(word)
	if !r.take("(") {
		return variable(s)
	}
	e := api.Expr{Op: calls[s]}
	if !r.take(")") {
		e.Args = []api.Expr{r.expr(1)}
		r.expect(")")
	}
	return e
}

// contents reads a string behind its first quote.
func (r *reader) contents() string {
	var s []byte
	for !r.take(`"`) {
		r.take(`\`)
		s = append(s, r.rest[0])
		r.rest = r.rest[1:]
	}
	return string(s)
}

// max reads a number and what stands behind it.
func (r *reader) max(end string) int {
	n, err := strconv.Atoi(r.leading(digits))
	if err != nil {
		r.t.Fatal(err)
	}
	r.expect(end)
	return n
}

// exprAnd reads an expression and what stands behind it.
func (r *reader) exprAnd(end string) api.Expr {
	e := r.expr(1)
	r.expect(end)
	return e
}

// name reads a name and what stands behind it.
func (r *reader) name(end string) string {
	s := r.leading(word)
	r.expect(end)
	return s
}

// block reads the lines of a block with n blocks around its statements, up to its brace.
func (r *reader) block(n int) []api.Stmt {
	var l []api.Stmt
	for !r.take(strings.Repeat("    ", n-1) + "}") {
		r.expect(strings.Repeat("    ", n))
		l = append(l, r.stmt(n))
	}
	return l
}

// stmt reads the lines of a statement with n blocks around it.
func (r *reader) stmt(n int) api.Stmt {
	s := api.Stmt{}
	switch {
	case r.take("let "):
		return let(r.name(" = "), r.exprAnd(";\n"))
	case r.take("put "):
		return put(r.exprAnd(" = "), r.exprAnd(";\n"))
	case r.take("delete "):
		return remove(r.exprAnd(";\n"))
	case r.take("emit "):
		return emit(r.exprAnd(";\n"))
	case r.take("abort "):
		return abort(r.max(";\n"))
	case r.take("for "):
		s = api.Stmt{Op: api.SFor, Name: r.name(" = "), A: r.exprAnd(" to "), B: r.exprAnd(" max "), Max: r.max(" {\n"), Body: r.block(n + 1)}
	case r.take("if "):
		s = api.Stmt{Op: api.SIf, A: r.exprAnd(" {\n"), Body: r.block(n + 1)}
		if r.take(" else {\n") {
			s.Else = r.block(n + 1)
		}
	default:
		return set(r.name(" = "), r.exprAnd(";\n"))
	}
	r.expect("\n")
	return s
}

// proc reads a procedure.
func (r *reader) proc() api.Proc {
	types := map[string]int{"int": api.TyInt, "str": api.TyStr, "bool": api.TyBool}
	r.expect("proc ")
	p := api.Proc{Name: r.name("(")}
	for !r.take(")") {
		if len(p.Params) > 0 {
			r.expect(", ")
		}
		p.Params = append(p.Params, param(r.name(": "), types[r.leading(word)]))
	}
	r.expect(" {\n")
	p.Body = r.block(1)
	r.expect("\n")
	return p
}
