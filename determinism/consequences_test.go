package determinism

import (
	"clockwork/api"
	"clockwork/ast"
	"slices"
	"testing"
)

// TestP12_4Accepted requires of the expressions of accepted procedures that they are pure or read the state, and are not nondeterministic.
func TestP12_4Accepted(t *testing.T) {
	pure, reads := 0, 0
	for _, p := range randomProcs(10000) {
		if Check(p) != api.OK {
			continue
		}
		checkFirst(t, p, found{})
		for _, e := range ast.Exprs(p) {
			if Pure(e) == Reads(e) || hasOneOf(e, nondeterministic()) {
				t.Fatalf("Pure = %t, Reads = %t of %+v in\n%s", Pure(e), Reads(e), e, show(p))
			}
			if Pure(e) {
				pure++
			} else {
				reads++
			}
		}
	}
	if pure < 5000 || reads < 5000 {
		t.Errorf("%d expressions are pure, and %d read the state", pure, reads)
	}
}

// TestP12_4Replace replaces each integer of accepted procedures, and each one of all their integers.
func TestP12_4Replace(t *testing.T) {
	isInt := func(e *api.Expr) bool { return e.Op != api.EInt }
	count := 0
	for _, p := range randomProcs(5000) {
		if Check(p) != api.OK {
			continue
		}
		l := slices.DeleteFunc(pointersIn(p.Body), isInt)
		for _, e := range l {
			before := *e
			for _, op := range nondeterministic() {
				*e = api.Expr{Op: op}
				checkProc(t, p, api.ErrNondeterministic)
				count++
			}
			*e = before
			checkProc(t, p, api.OK)
		}
		if len(l) > 0 {
			for _, e := range l {
				*e = api.Expr{Op: api.ENow}
			}
			checkProc(t, p, api.ErrNondeterministic)
		}
	}
	if count < 5000 {
		t.Errorf("%d constants are replaced", count)
	}
}

// TestP12_5Operands requires that no expression is pure one of whose operands is not, and that it reads what they read.
func TestP12_5Operands(t *testing.T) {
	check := func(e api.Expr) {
		for _, arg := range e.Args {
			if !Pure(arg) && Pure(e) || Reads(arg) && !Reads(e) {
				t.Fatalf("Pure = %t, Reads = %t of %+v", Pure(e), Reads(e), e)
			}
		}
	}
	pure, reads := []api.Expr{{Op: api.EInt}, {Op: api.EVar, S: "x"}, {}, {Op: 28}}, []api.Expr{{Op: api.EHas}, {Op: api.ENow}, {Op: 99, Args: []api.Expr{{Op: api.EGetInt}}}}
	for _, op := range operators() {
		for _, a := range slices.Concat(pure, reads) {
			for _, b := range slices.Concat(pure, reads) {
				check(api.Expr{Op: op, Args: []api.Expr{a}})
				check(api.Expr{Op: op, Args: []api.Expr{a, b}})
				check(api.Expr{Op: op, Args: []api.Expr{pure[0], a, b, pure[1]}})
			}
		}
		for _, a := range reads {
			for i := range 4 {
				args := slices.Repeat(pure[:1], 4)
				args[i] = a
				if Pure(api.Expr{Op: op, Args: args}) {
					t.Fatalf("the operator %d with the operands %+v is pure", op, args)
				}
			}
		}
	}
	for _, p := range randomProcs(5000) {
		for _, e := range pointersIn(p.Body) {
			check(*e)
		}
	}
}
