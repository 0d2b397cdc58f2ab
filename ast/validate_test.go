package ast

import (
	"clockwork/api"
	"math"
	"strings"
	"testing"
)

// simpleStmts returns a statement of each operator, with nothing but what it needs.
func simpleStmts() []api.Stmt {
	return []api.Stmt{
		let("y", number(1)), set("y", number(1)), put(text("k"), number(1)), remove(text("k")), when(number(1), nil, nil),
		loop("i", number(0), number(1), 1), emit(number(1)), abort(0),
	}
}

// fullStmts returns statements with everything that their operators use.
func fullStmts() []api.Stmt {
	sum := apply(api.EAdd, number(1), variable("x"))
	return []api.Stmt{
		let("y", sum), set("y", apply(api.ENeg, number(1))), put(apply(api.ECat, text("k"), apply(api.EText, variable("x"))), sum), remove(apply(api.EGetStr, text("k"))),
		when(apply(api.EHas, text("k")), stmts(emit(sum), abort(7)), stmts(let("z", sum))), when(apply(api.ENow), nil, stmts(remove(variable("s")))), when(sum, stmts(when(sum, nil, nil)), nil),
		loop("i", sum, apply(api.ENode), mostLoop, emit(variable("i")), loop("j", number(0), sum, 2, set("y", sum))), emit(apply(api.EGetInt, text("k"))), abort(mostAbort),
	}
}

func TestP8_3Examples(t *testing.T) {
	checkValidate(t, proc(put(text("k"), apply(api.EAdd, number(1), variable("x")))), api.OK)
	checkValidate(t, api.Proc{Name: "p", Params: []api.Param{param("n", api.TyInt)}, Body: stmts(emit(variable("n")))}, api.OK)
	checkValidate(t, proc(emit(number(-1))), api.ErrArg)
	checkValidate(t, proc(emit(apply(api.ENeg, number(1)))), api.OK)
	checkValidate(t, proc(), api.OK)
	checkValidate(t, api.Proc{}, api.ErrName)
	for _, s := range append(simpleStmts(), fullStmts()...) {
		checkStmt(t, s, api.OK)
	}
	checkValidate(t, proc(append(simpleStmts(), fullStmts()...)...), api.OK)
}

func TestP8_3ProcName(t *testing.T) {
	long := strings.Repeat("k", mostName)
	for _, s := range []string{"a", "z9_", "lets", "p1", "main", long, long[1:] + "_"} {
		checkValidate(t, api.Proc{Name: s}, api.OK)
		checkValidate(t, api.Proc{Name: s, Params: []api.Param{param(s, 1)}, Body: stmts(let(s, number(1)))}, api.OK)
	}
	bad := proc(api.Stmt{}).Body
	for _, s := range append(allKeywords(), "", "_", "P", "1", "a b", "a\n", "é", long+"k", strings.Repeat("k", 1000)) {
		checkValidate(t, api.Proc{Name: s}, api.ErrName)
		// It comes before the parameters and the statements.
		checkValidate(t, api.Proc{Name: s, Params: make([]api.Param, 7), Body: bad}, api.ErrName)
		checkValidate(t, api.Proc{Name: s, Params: []api.Param{param("x", 4)}, Body: aborts(401)}, api.ErrName)
	}
	for _, b := range everyByte() {
		want := api.ErrName
		if strings.Contains(wordBytes, b) {
			want = api.OK
		}
		checkValidate(t, api.Proc{Name: "p" + b}, want)
		checkValidate(t, withParams(param("p"+b, 1)), want)
		checkStmt(t, let("p"+b, number(1)), want)
	}
}

// params returns n valid parameters.
func params(n int) []api.Param {
	var l []api.Param
	for i := range n {
		l = append(l, param(letters[i:i+1], i%3+1))
	}
	return l
}

func TestP8_3Params(t *testing.T) {
	for n := range 20 {
		want := api.OK
		if n > mostParams {
			want = api.ErrLimit
		}
		checkValidate(t, withParams(params(n)...), want)
	}
	for i := range mostParams {
		for _, c := range []struct {
			p    api.Param
			want api.Errno
		}{
			{param("x", api.TyInt), api.OK}, {param("x", api.TyStr), api.OK}, {param("x", api.TyBool), api.OK}, {param("p", 1), api.OK},
			{param("x", 0), api.ErrType}, {param("x", 4), api.ErrType}, {param("x", -1), api.ErrType}, {param("x", 1<<32+1), api.ErrType}, {param("x", math.MinInt), api.ErrType}, {param("x", math.MaxInt), api.ErrType},
			{param("", 1), api.ErrName}, {param("X", 1), api.ErrName}, {param("let", 1), api.ErrName}, {param(strings.Repeat("x", 16), 1), api.OK}, {param(strings.Repeat("x", 17), 1), api.ErrName},
			{param("X", 0), api.ErrName}, {param("", 4), api.ErrName}, {api.Param{}, api.ErrName},
		} {
			l := params(mostParams)
			l[i] = c.p
			checkValidate(t, withParams(l...), c.want)
			checkValidate(t, withParams(l[:i+1]...), c.want)
			checkValidate(t, withParams(append(l, param("x", 1))...), api.ErrLimit)
		}
		for j := range i {
			l := params(mostParams)
			l[i].Name = l[j].Name
			checkValidate(t, withParams(l...), api.ErrDuplicate)
			checkValidate(t, withParams(l[:i+1]...), api.ErrDuplicate)
			l[i].Type = 4
			checkValidate(t, withParams(l...), api.ErrType)
		}
	}
}

// TestP8_3ParamsFirstError puts two errors into the parameters, and one into the body.
func TestP8_3ParamsFirstError(t *testing.T) {
	wrong := map[api.Errno][]api.Param{
		api.ErrName:      {param("", 1), param("X", 4), param("if", 2), {}},
		api.ErrType:      {param("x", 0), param("y", 4), param("a", 4)},
		api.ErrDuplicate: {param("a", 1), param("a", 2)},
	}
	for e, l := range wrong {
		for _, x := range l {
			for _, others := range wrong {
				for _, y := range others {
					checkValidate(t, withParams(param("a", 1), x, y), e)
					checkValidate(t, withParams(param("a", 1), x, param("b", 1), y, param("c", 1)), e)
					checkValidate(t, withParams(param("a", 1), x, y, param("b", 1), param("c", 1), param("d", 1), param("e", 1)), api.ErrLimit)
				}
			}
			for _, body := range [][]api.Stmt{{{}}, {emit(variable("X"))}, {abort(1000)}, aborts(401)} {
				p := withParams(param("a", 1), x)
				p.Body = body
				checkValidate(t, p, e)
			}
		}
	}
	checkValidate(t, api.Proc{Name: "p", Params: make([]api.Param, 7), Body: stmts(api.Stmt{})}, api.ErrLimit)
	checkValidate(t, withParams(param("a", 1), param("a", 4)), api.ErrType)
	checkValidate(t, withParams(param("A", 4), param("A", 4)), api.ErrName)
}

// fillings returns, for each field, changes with which it is not zero.
func fillings() map[string][]func(s *api.Stmt) {
	return map[string][]func(s *api.Stmt){
		"Name": {func(s *api.Stmt) { s.Name = "x" }, func(s *api.Stmt) { s.Name = "X" }, func(s *api.Stmt) { s.Name = " " }},
		"Max":  {func(s *api.Stmt) { s.Max = 1 }, func(s *api.Stmt) { s.Max = -1 }, func(s *api.Stmt) { s.Max = 999 }, func(s *api.Stmt) { s.Max = 1 << 32 }},
		"A":    {func(s *api.Stmt) { s.A = number(0) }, func(s *api.Stmt) { s.A.Op = -1 }, func(s *api.Stmt) { s.A.N = 1 }, func(s *api.Stmt) { s.A.S = "x" }, func(s *api.Stmt) { s.A.Args = []api.Expr{{}} }},
		"B":    {func(s *api.Stmt) { s.B = number(0) }, func(s *api.Stmt) { s.B.Op = -1 }, func(s *api.Stmt) { s.B.N = 1 }, func(s *api.Stmt) { s.B.S = "x" }, func(s *api.Stmt) { s.B.Args = []api.Expr{{}} }},
		"Body": {func(s *api.Stmt) { s.Body = aborts(1) }, func(s *api.Stmt) { s.Body = make([]api.Stmt, 1) }},
		"Else": {func(s *api.Stmt) { s.Else = aborts(1) }, func(s *api.Stmt) { s.Else = make([]api.Stmt, 1) }},
	}
}

// TestP8_3UnusedFields fills each field that an operator does not use, alone and beside other errors.
func TestP8_3UnusedFields(t *testing.T) {
	count := 0
	for _, simple := range simpleStmts() {
		for field, changes := range fillings() {
			if uses(simple.Op, field) {
				continue
			}
			count++
			for _, change := range changes {
				s := simple
				change(&s)
				checkStmt(t, s, api.ErrArg)
				// It comes before names and expressions.
				for _, other := range strings.Fields(usedNames()[s.Op]) {
					switch other {
					case "Name":
						s.Name = "X"
					case "A":
						s.A = variable("X")
					case "B":
						s.B = variable("X")
					case "Body":
						s.Body = stmts(emit(variable("X")))
					}
					checkStmt(t, s, api.ErrArg)
				}
			}
		}
		s := simple
		s.A.Args, s.B.Args = []api.Expr{}, []api.Expr{}
		if s.A.Op != 0 {
			s.A.Args = nil
		}
		s.Body, s.Else = []api.Stmt{}, []api.Stmt{}
		checkStmt(t, s, api.OK)
	}
	if count != 8*6-17 {
		t.Errorf("%d fields are not used", count)
	}
}

func TestP8_3Operators(t *testing.T) {
	for _, op := range append(strangeOps(), 9, 10, 27) {
		for _, s := range []api.Stmt{{}, let("x", number(1)), put(text("k"), number(1)), loop("i", number(0), number(1), 2), when(number(1), aborts(1), aborts(1)), abort(1)} {
			s.Op = op
			checkStmt(t, s, api.ErrArg)
			s.Name, s.A = "X", variable("X")
			checkStmt(t, s, api.ErrArg)
		}
	}
	for op := -100; op <= 100; op++ {
		want := api.ErrArg
		switch op {
		case api.SEmit, api.SDelete, api.SIf:
			want = api.OK
		case api.SLet, api.SSet:
			want = api.ErrName
		}
		checkStmt(t, api.Stmt{Op: op, A: number(1)}, want)
	}
}

func TestP8_3Max(t *testing.T) {
	for n := -5; n <= 1005; n++ {
		wantLoop, wantAbort := api.ErrArg, api.ErrArg
		if n >= 1 && n <= 16 {
			wantLoop = api.OK
		}
		if n >= 0 && n <= 999 {
			wantAbort = api.OK
		}
		checkStmt(t, loop("i", number(0), number(1), n), wantLoop)
		checkStmt(t, abort(n), wantAbort)
	}
	for _, n := range []int{math.MinInt, -1 << 32, -1000, -16, 1<<32 + 1, 1 << 40, math.MaxInt} {
		checkStmt(t, loop("i", number(0), number(1), n), api.ErrArg)
		checkStmt(t, abort(n), api.ErrArg)
	}
	for _, n := range []int{-1, 0, 17} {
		// It comes before the name and the expressions.
		checkStmt(t, loop("I", number(0), number(1), n), api.ErrArg)
		checkStmt(t, loop("i", variable("X"), number(1), n), api.ErrArg)
		checkStmt(t, loop("i", number(1), variable("X"), n), api.ErrArg)
		checkStmt(t, loop("i", number(1), number(1), n, emit(variable("X"))), api.ErrArg)
	}
}

func TestP8_3Names(t *testing.T) {
	long := strings.Repeat("k", mostName)
	withName := func(s string) []api.Stmt {
		return stmts(let(s, number(1)), set(s, number(1)), loop(s, number(0), number(1), 1))
	}
	for _, name := range []string{"x", "p", "z9_", "lets", long} {
		for _, s := range withName(name) {
			checkStmt(t, s, api.OK)
		}
	}
	for _, name := range append(allKeywords(), "", "_", "X", "1", "a b", long+"k", strings.Repeat("k", 1000)) {
		for _, s := range withName(name) {
			checkStmt(t, s, api.ErrName)
			// It comes before the expressions and the statements in it.
			s.A = api.Expr{}
			checkStmt(t, s, api.ErrName)
			s.A = number(-1)
			checkStmt(t, s, api.ErrName)
			if s.Op == api.SFor {
				s.A, s.B = number(1), number(-1)
				checkStmt(t, s, api.ErrName)
				s.B, s.Body = number(1), stmts(api.Stmt{})
				checkStmt(t, s, api.ErrName)
			}
		}
	}
	// A variable may be declared, assigned and used any number of times.
	checkValidate(t, api.Proc{Name: "p", Params: params(2), Body: stmts(let("a", number(1)), let("a", variable("a")), set("p", variable("q")), loop("a", number(0), number(1), 1, let("a", number(1))))}, api.OK)
}

// TestP8_3Exprs puts wrong expressions into A and B of all statements that use them.
func TestP8_3Exprs(t *testing.T) {
	limit := wrapped(number(1), mostDepth, wraps()[0])
	wrong := wrongNodes()
	wrong[api.ErrLimit] = []api.Expr{limit, apply(api.EAdd, number(1), limit.Args[0])}
	for e, l := range wrong {
		for _, x := range l {
			inner := x
			if e != api.ErrLimit {
				inner = apply(api.EAdd, number(1), apply(api.ENeg, x))
			}
			for _, simple := range append(simpleStmts(), fullStmts()...) {
				for _, y := range []api.Expr{x, inner} {
					if s := simple; uses(s.Op, "A") {
						s.A = y
						checkStmt(t, s, e)
					}
					if s := simple; uses(s.Op, "B") {
						s.B = y
						checkStmt(t, s, e)
						for otherE, others := range wrong {
							s.A = others[0]
							checkStmt(t, s, otherE)
						}
					}
				}
			}
		}
	}
	// An absent expression is none, so that it is wrong where one is used.
	for _, absent := range []api.Expr{{}, {Args: []api.Expr{}}} {
		for _, s := range stmts(let("x", absent), set("x", absent), put(absent, number(1)), put(number(1), absent), put(absent, absent), remove(absent), when(absent, nil, nil), loop("i", absent, number(1), 1), loop("i", number(1), absent, 1), emit(absent)) {
			checkStmt(t, s, api.ErrArg)
		}
	}
}

// nests returns the ways in which statements can stand in another one.
func nests() []func(l ...api.Stmt) api.Stmt {
	return []func(l ...api.Stmt) api.Stmt{
		func(l ...api.Stmt) api.Stmt { return when(number(1), l, nil) },
		func(l ...api.Stmt) api.Stmt { return when(number(1), nil, l) },
		func(l ...api.Stmt) api.Stmt { return when(number(1), l, aborts(1)) },
		func(l ...api.Stmt) api.Stmt { return loop("i", number(0), number(1), 1, l...) },
	}
}

// nested returns s inside of n statements.
func nested(s api.Stmt, n int, nest func(l ...api.Stmt) api.Stmt) api.Stmt {
	for range n {
		s = nest(s)
	}
	return s
}

// TestP8_3Depth nests statements of up to MaxDepth levels and of more in each field.
func TestP8_3Depth(t *testing.T) {
	for i, nest := range nests() {
		for _, s := range simpleStmts() {
			for depth := 1; depth <= mostDepth+3; depth++ {
				want := api.OK
				if depth > mostDepth {
					want = api.ErrLimit
				}
				p := proc(nested(s, depth-1, nest))
				checkValidate(t, p, want)
				if got := Depth(p); got != depth {
					t.Errorf("Depth = %d, want %d", got, depth)
				}
			}
			other := nests()[(i+1)%len(nests())]
			checkValidate(t, proc(nested(nested(s, 5, nest), 6, other)), api.OK)
			checkValidate(t, proc(nested(nested(s, 6, nest), 6, other)), api.ErrLimit)
		}
		// The expressions of the deepest statements have depths of their own.
		deep := wrapped(number(1), mostDepth-1, wraps()[0])
		checkValidate(t, proc(nested(emit(deep), mostDepth-1, nest)), api.OK)
		checkValidate(t, proc(nested(emit(apply(api.ENeg, deep)), mostDepth-1, nest)), api.ErrLimit)
		checkValidate(t, proc(nested(emit(deep), mostDepth-1, nest), nested(abort(0), mostDepth-1, nest), abort(0)), api.OK)
	}
	both := func(l ...api.Stmt) api.Stmt { return when(number(1), aborts(1), l) }
	checkValidate(t, proc(nested(abort(0), mostDepth-1, both)), api.OK)
	checkValidate(t, proc(nested(abort(0), mostDepth, both)), api.ErrLimit)
}

// TestP8_3DepthAndErrors has errors of statements that are too deep.
func TestP8_3DepthAndErrors(t *testing.T) {
	for _, nest := range nests() {
		for s, e := range map[*api.Stmt]api.Errno{
			{}:                                      api.ErrArg,
			{Op: api.SAbort, Max: 1000}:             api.ErrArg,
			{Op: api.SLet, Name: "X", A: text("a")}: api.ErrName,
			{Op: api.SEmit, A: variable("X")}:       api.ErrName,
			{Op: api.SPut, A: text("a"), B: variable("X")}: api.ErrName,
			{Op: api.SEmit, A: number(-1)}:                 api.ErrArg,
			{Op: api.SAbort, Name: "x"}:                    api.ErrArg,
		} {
			checkValidate(t, proc(nested(*s, mostDepth-1, nest)), e)
			checkValidate(t, proc(nested(*s, mostDepth, nest)), e)
			checkValidate(t, proc(nested(*s, mostDepth+1, nest)), api.ErrLimit)
			checkValidate(t, proc(nested(nest(abort(0), *s), mostDepth-1, nest)), api.ErrLimit)
			checkValidate(t, proc(nested(nest(*s, abort(0)), mostDepth-1, nest)), e)
			checkValidate(t, proc(nested(abort(0), mostDepth, nest), *s), api.ErrLimit)
			checkValidate(t, proc(*s, nested(abort(0), mostDepth, nest)), e)
		}
	}
}

// wrongStmts returns statements with errors, without those of the statements in them.
func wrongStmts() map[api.Errno][]api.Stmt {
	limit := wrapped(number(1), mostDepth, wraps()[0])
	return map[api.Errno][]api.Stmt{
		api.ErrArg:   {{}, {Op: 9}, abort(-1), abort(1000), emit(number(-1)), put(text("k"), api.Expr{}), loop("i", number(0), number(1), 0), when(number(-1), aborts(1), aborts(1)), {Op: api.SEmit, A: number(1), Body: aborts(1)}},
		api.ErrName:  {let("X", number(1)), set("let", number(1)), loop("", number(0), number(1), 1, abort(1)), emit(variable("X")), put(variable("X"), number(-1)), when(apply(api.EAdd, number(1), variable("")), aborts(1), aborts(1))},
		api.ErrLimit: {emit(limit), put(limit, variable("X")), when(limit, aborts(1), aborts(1))},
	}
}

// TestP8_3FirstError puts two statements with errors into one procedure, one behind the other and one into the other.
func TestP8_3FirstError(t *testing.T) {
	for e, l := range wrongStmts() {
		for _, x := range l {
			for otherE, others := range wrongStmts() {
				for _, y := range others {
					checkValidate(t, proc(x, y), e)
					checkValidate(t, proc(abort(1), x, abort(2), y), e)
					checkValidate(t, proc(when(number(1), stmts(abort(1), x), stmts(y))), e)
					checkValidate(t, proc(when(number(1), stmts(x, y), nil), y), e)
					checkValidate(t, proc(when(number(1), nil, stmts(x)), y), e)
					checkValidate(t, proc(loop("i", number(0), number(1), 1, nested(x, 3, nests()[0])), y), e)
					checkValidate(t, proc(y, nested(x, 3, nests()[1])), otherE)
					if x.Op == api.SIf {
						x.Body, x.Else = stmts(y), stmts(y)
						checkValidate(t, proc(x), e)
					}
					if x.Op == api.SFor {
						x.Body = stmts(y)
						checkValidate(t, proc(x), e)
					}
				}
			}
			// It comes before the limit of nodes.
			checkValidate(t, proc(append(stmts(x), aborts(500)...)...), e)
			checkValidate(t, proc(append(aborts(390), append(stmts(x), aborts(100)...)...)...), e)
		}
	}
}

// TestP8_3AllSmall compares Validate with the definition for statements with every operator and many fields.
func TestP8_3AllSmall(t *testing.T) {
	exprs := []api.Expr{{}, number(1), variable("X"), {N: 1}, {S: "x"}, {Op: 28}, {Args: []api.Expr{number(1)}}}
	bodies := [][]api.Stmt{nil, {abort(1)}, {emit(variable("X"))}}
	counts := map[api.Errno]int{}
	for op := 0; op <= 9; op++ {
		for _, name := range []string{"", "x", "X"} {
			for _, most := range []int{-1, 0, 1, 16, 17, 999, 1000} {
				for _, a := range exprs {
					for _, b := range exprs {
						for _, body := range bodies {
							for _, other := range bodies {
								p := proc(api.Stmt{Op: op, Name: name, Max: most, A: a, B: b, Body: body, Else: other})
								want := procErrorOf(p)
								if got := Validate(p); got != want {
									t.Fatalf("Validate(%+v) = %d, want %d", p, got, want)
								}
								counts[want]++
							}
						}
					}
				}
			}
		}
	}
	// One expression, one name and two of the bodies are valid; Max has two values for loops, and five for abort.
	if counts[api.OK] != 5+2*2+2*2+5 {
		t.Errorf("%d statements are valid", counts[api.OK])
	}
}
