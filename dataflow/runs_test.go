package dataflow

import (
	"clockwork/api"
	"clockwork/checksum"
	"clockwork/cost"
	"clockwork/keys"
	"clockwork/num"
	"cmp"
	"fmt"
	"slices"
	"strings"
	"testing"
)

// run is a run of an accepted procedure with a footprint that allows everything, as DOC.md defines it, as far as P14.4 speaks of it.
type run struct {
	stored   func(key string) any // an int64, a string, or nil
	vars     map[string]any
	own      map[string]any // what the run has put, or nil where it has deleted
	emits    int
	accesses []string // in the order of the run
}

// abort is what a run panics with when it ends early.
type abort struct{}

// require ends the run if the condition does not hold.
func require(holds bool) {
	if !holds {
		panic(abort{})
	}
}

// access records an access of the kind to a key.
func (r *run) access(kind string, key any) string {
	require(keys.Valid(key.(string)))
	r.accesses = append(r.accesses, kind+" "+key.(string))
	return key.(string)
}

// read returns what the key has.
func (r *run) read(key any) any {
	if name, ok := key.(string); ok {
		if v, isOwn := r.own[name]; isOwn {
			return v
		}
	}
	return r.stored(r.access("read", key))
}

// orZero returns v, or zero if it is absent. The run ends if v has another type.
func orZero[V any](v any, zero V) any {
	if v == nil {
		return zero
	}
	_, ok := v.(V)
	require(ok)
	return v
}

// eval returns the value of e.
func (r *run) eval(e api.Expr) any {
	var l []any
	for _, arg := range e.Args {
		l = append(l, r.eval(arg))
	}
	switch e.Op {
	case api.EInt:
		return e.N
	case api.EStr:
		return e.S
	case api.EVar:
		return r.vars[e.S]
	case api.EEq:
		return l[0] == l[1]
	case api.ENe:
		return l[0] != l[1]
	case api.EAnd:
		return l[0].(bool) && l[1].(bool)
	case api.EOr:
		return l[0].(bool) || l[1].(bool)
	case api.ENot:
		return !l[0].(bool)
	case api.ECat:
		require(len(l[0].(string)+l[1].(string)) <= 64)
		return l[0].(string) + l[1].(string)
	case api.EText:
		return num.Format(l[0].(int64))
	case api.ELen:
		return int64(len(l[0].(string)))
	case api.EGetInt:
		return orZero(r.read(l[0]), int64(0))
	case api.EGetStr:
		return orZero(r.read(l[0]), "")
	case api.EHas:
		return r.read(l[0]) != nil
	case api.ELt, api.ELe, api.EGt, api.EGe:
		return inOrder(e.Op, l[0], l[1])
	default:
		return calculate(e.Op, l)
	}
}

// inOrder compares two integers or two strings.
func inOrder(op int, a, b any) bool {
	var c int
	if n, ok := a.(int64); ok {
		c = cmp.Compare(n, b.(int64))
	} else {
		c = cmp.Compare(a.(string), b.(string))
	}
	return map[int]bool{api.ELt: c < 0, api.ELe: c <= 0, api.EGt: c > 0, api.EGe: c >= 0}[op]
}

// calculate returns the result of an operator of integers.
func calculate(op int, l []any) any {
	a := l[0].(int64)
	b := l[len(l)-1].(int64)
	neg := func(int64, int64) (int64, api.Errno) { return num.Neg(a) }
	f := map[int]func(a, b int64) (int64, api.Errno){api.EAdd: num.Add, api.ESub: num.Sub, api.EMul: num.Mul, api.EDiv: num.Div, api.EMod: num.Mod, api.ENeg: neg}[op]
	n, e := f(a, b)
	require(e == api.OK)
	return n
}

// list executes the statements.
func (r *run) list(body []api.Stmt) {
	for _, s := range body {
		r.stmt(s)
	}
}

// stmt executes s.
func (r *run) stmt(s api.Stmt) {
	require(s.Op != api.SAbort)
	a := r.eval(s.A)
	switch s.Op {
	case api.SLet, api.SSet:
		r.vars[s.Name] = a
	case api.SPut:
		v := r.eval(s.B)
		r.own[r.access("put", a)] = v
	case api.SDelete:
		r.own[r.access("put", a)] = nil
	case api.SIf:
		if a.(bool) {
			r.list(s.Body)
		} else {
			r.list(s.Else)
		}
	case api.SFor:
		b := r.eval(s.B)
		n, e := num.Sub(b.(int64), a.(int64))
		require(n <= int64(s.Max) && (e == api.OK || a.(int64) > 0))
		for i := a.(int64); i < b.(int64); i++ {
			r.vars[s.Name] = i
			r.list(s.Body)
		}
	case api.SEmit:
		require(r.emits < 16)
		r.emits++
	}
}

// accessesOf returns the accesses of a run of p, and whether it commits.
func accessesOf(p api.Proc, args []any, stored func(key string) any) (accesses []string, commits bool) {
	r := &run{stored: stored, vars: map[string]any{}, own: map[string]any{}}
	for i, x := range p.Params {
		r.vars[x.Name] = args[i]
	}
	defer func() {
		if x := recover(); x != nil {
			if _, ok := x.(abort); !ok {
				panic(x)
			}
			accesses, commits = r.accesses, false
		}
	}()
	r.list(p.Body)
	return r.accesses, true
}

// stateOf returns a state, which has integers, strings or nothing at keys.
func stateOf(seed int) func(key string) any {
	return func(key string) any {
		hash := checksum.FNV(fmt.Sprintf("%d %s", seed, key))
		switch number := int64(hash / 8 % 4); hash % 8 {
		case 0, 1, 2:
			return number
		case 3, 4, 5:
			return []string{"a", "k", "b/c", "7"}[number]
		default:
			return nil
		}
	}
}

// isPrefix tells whether a is the beginning of b.
func isPrefix(a, b []string) bool {
	return len(a) <= len(b) && slices.Equal(a, b[:len(a)])
}

// agree tells whether two runs access the same keys in the same order until one of them ends.
func agree(a []string, commitsA bool, b []string, commitsB bool) bool {
	switch {
	case commitsA && commitsB:
		return slices.Equal(a, b)
	case commitsA:
		return isPrefix(b, a)
	case commitsB:
		return isPrefix(a, b)
	default:
		return isPrefix(a, b) || isPrefix(b, a)
	}
}

// TestP14_4Runs executes random procedures with the same arguments on different states.
func TestP14_4Runs(t *testing.T) {
	fixed, ended, differ := 0, 0, 0
	for _, p := range randomProcs(20000) {
		if cost.Check(p) != api.OK {
			continue
		}
		isFixed := Independent(p) && !ControlTainted(p)
		for i := range 6 {
			args := []any{[]string{"s", "a/b", "7"}[i%3], int64(i - 1)}
			first, firstCommits := accessesOf(p, args, stateOf(2*i))
			second, secondCommits := accessesOf(p, args, stateOf(2*i+1))
			doAgree := agree(first, firstCommits, second, secondCommits)
			switch {
			case isFixed && !doAgree:
				t.Fatalf("with the arguments %v, the accesses are %v and %v, of\n%s", args, first, second, show(p))
			case isFixed && len(first) > 1 && firstCommits && secondCommits:
				fixed++
			case isFixed && len(first) != len(second):
				ended++
			case !doAgree:
				differ++
			}
		}
	}
	if fixed < 1000 || ended < 500 || differ < 300 {
		t.Errorf("%d pairs of runs access the same keys, %d do so until one ends, and %d do not", fixed, ended, differ)
	}
}

// TestP14_4Each requires of both premises that a procedure without it accesses other keys on another state.
func TestP14_4Each(t *testing.T) {
	for body, want := range map[string]results{
		`put text(len(getstr("x"))) = 1;`:                                               {keys: true},
		`let v = has("x"); if v { put "y" = 1; }`:                                       {tainted: "v", control: true, independent: true},
		`let v = has("x"); if v { n = 5; } put text(n) = 1;`:                            {tainted: "n v", keys: true, control: true},
		`for i = 0 to len(getstr("x")) max 9 { emit getint("y"); }`:                     {tainted: "i", control: true, independent: true},
		`let c = 0; for i = 0 to len(getstr("x")) max 9 { c = 1 + c; } delete text(c);`: {tainted: "c i", keys: true, control: true},
	} {
		p := proc(t, body)
		checkProc(t, p, want)
		state := func(v any) func(key string) any {
			return func(string) any { return v }
		}
		first, firstCommits := accessesOf(p, []any{"s", int64(1)}, state(nil))
		second, secondCommits := accessesOf(p, []any{"s", int64(1)}, state("abc"))
		// Some runs end when they read the string as an integer, but behind an access that the other one has not.
		if agree(first, firstCommits, second, secondCommits) {
			t.Errorf("the accesses are %s and %s, of\n%s", strings.Join(first, ", "), strings.Join(second, ", "), show(p))
		}
	}
}
