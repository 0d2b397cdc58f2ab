package cost

import (
	"clockwork/api"
	"clockwork/ast"
	"maps"
	"math/rand/v2"
	"testing"
)

// ends are the amounts that paths through some statements have: complete ones, and all that may end there.
type ends struct{ complete, all map[amounts]bool }

// only are the ends of a single path, which counts the amounts at once.
func only(a amounts) ends {
	return ends{map[amounts]bool{a: true}, map[amounts]bool{a: true}}
}

// then returns the ends of the paths that lead through the statements of x, and then through those of y.
func (x ends) then(y ends) ends {
	r := ends{map[amounts]bool{}, maps.Clone(x.all)}
	for a := range x.complete {
		for b := range y.complete {
			r.complete[sum(a, b)] = true
		}
		for b := range y.all {
			r.all[sum(a, b)] = true
		}
	}
	return r
}

// or returns the ends of the paths that lead through the statements of x or of y.
func (x ends) or(y ends) ends {
	r := ends{maps.Clone(x.complete), maps.Clone(x.all)}
	maps.Copy(r.complete, y.complete)
	maps.Copy(r.all, y.all)
	return r
}

// endsOf returns the ends of all paths through the statements.
func endsOf(body []api.Stmt) ends {
	r := only(amounts{})
	for _, s := range body {
		r = r.then(only(ownOf(s)))
		switch s.Op {
		case api.SIf:
			r = r.then(endsOf(s.Body).or(endsOf(s.Else)))
		case api.SFor:
			iteration := only(amounts{steps: 1}).then(endsOf(s.Body))
			iterations := only(amounts{})
			for range s.Max {
				iterations = only(amounts{}).or(iteration.then(iterations))
			}
			r = r.then(iterations)
		}
	}
	return r
}

// isWithin tells whether none of the numbers is greater than its bound.
func isWithin(a, bounds amounts) bool {
	return least(a, bounds) == a
}

// smallBodies returns all lists with this number of statements of these kinds, some of them in others.
func smallBodies(number int) [][]api.Stmt {
	if number == 0 {
		return [][]api.Stmt{nil}
	}
	key, integer := api.Expr{Op: api.EStr, S: "k"}, api.Expr{Op: api.EInt}
	read := api.Expr{Op: api.EGetInt, Args: []api.Expr{key}}
	var l [][]api.Stmt
	for _, rest := range smallBodies(number - 1) {
		for _, s := range []api.Stmt{{Op: api.SAbort}, {Op: api.SPut, A: key, B: read}, {Op: api.SDelete, A: key}, {Op: api.SEmit, A: integer}} {
			l = append(l, append([]api.Stmt{s}, rest...))
		}
	}
	for inside := range number {
		for _, rest := range smallBodies(number - 1 - inside) {
			for _, body := range smallBodies(inside) {
				loop := api.Stmt{Op: api.SFor, A: integer, B: read, Max: 2, Body: body}
				l = append(l, append([]api.Stmt{loop}, rest...))
			}
			for i := range inside + 1 {
				for _, body := range smallBodies(i) {
					for _, other := range smallBodies(inside - i) {
						when := api.Stmt{Op: api.SIf, A: api.Expr{Op: api.EHas, Args: []api.Expr{key}}, Body: body, Else: other}
						l = append(l, append([]api.Stmt{when}, rest...))
					}
				}
			}
		}
	}
	return l
}

// named returns a copy of the statements, whose loops have different names.
func named(body []api.Stmt, names *int) []api.Stmt {
	var l []api.Stmt
	for _, s := range body {
		if s.Op == api.SFor {
			s.Name = "v" + string(rune('a'+*names))
			*names++
		}
		s.Body, s.Else = named(s.Body, names), named(s.Else, names)
		l = append(l, s)
	}
	return l
}

// checkPaths requires that the results are the greatest amounts of the paths through the body of p, which is accepted.
func checkPaths(t *testing.T, p api.Proc) {
	t.Helper()
	got, paths := resultsOf(p), endsOf(p.Body)
	for a := range paths.all {
		if !isWithin(a, got) {
			t.Fatalf("a path has %+v, and the results are %+v, of\n%s", a, got, show(p))
		}
	}
	var most amounts
	for a := range paths.complete {
		most = amounts{max(most.steps, a.steps), max(most.gets, a.gets), max(most.puts, a.puts), max(most.emits, a.emits)}
	}
	if most != got {
		t.Fatalf("the paths have up to %+v, and the results are %+v, of\n%s", most, got, show(p))
	}
}

// TestP13_3Small goes through all paths of all small procedures.
func TestP13_3Small(t *testing.T) {
	count := 0
	for number := range 5 {
		for _, body := range smallBodies(number) {
			names := 0
			p := api.Proc{Name: "p", Body: named(body, &names)}
			if e := Check(p); e != api.OK {
				t.Fatalf("Check = %d of\n%s", e, show(p))
			}
			checkPaths(t, p)
			count++
		}
	}
	if count != 1+6+54+630+8478 {
		t.Errorf("%d procedures are tested", count)
	}
}

// TestP13_3Random goes through all paths of random procedures of moderate size.
func TestP13_3Random(t *testing.T) {
	count := 0
	for _, p := range randomProcs(8000) {
		if Check(p) == api.OK && Steps(p) <= 60 {
			checkPaths(t, p)
			count++
		}
	}
	if count < 3000 {
		t.Errorf("%d procedures are tested", count)
	}
}

// walk goes along a random path through the statements, and calls visit for what it counts.
func walk(r *rand.Rand, body []api.Stmt, visit func(a amounts)) {
	for _, s := range body {
		visit(ownOf(s))
		switch {
		case s.Op == api.SIf && r.IntN(2) == 0:
			walk(r, s.Body, visit)
		case s.Op == api.SIf:
			walk(r, s.Else, visit)
		case s.Op == api.SFor:
			for range min(r.IntN(2*s.Max), s.Max) {
				visit(amounts{steps: 1})
				walk(r, s.Body, visit)
			}
		}
	}
}

// TestP13_3Walks goes along random paths of random procedures of any size.
func TestP13_3Walks(t *testing.T) {
	r := rand.New(rand.NewPCG(13, 3))
	count := 0
	for _, p := range randomProcs(8000) {
		if Check(p) != api.OK {
			continue
		}
		bounds := resultsOf(p)
		for range 5 {
			var so amounts
			walk(r, p.Body, func(a amounts) {
				so = sum(so, a)
				if !isWithin(so, bounds) {
					t.Fatalf("a path has %+v, and the results are %+v, of\n%s", so, bounds, show(p))
				}
			})
		}
		count++
	}
	if count < 4000 {
		t.Errorf("%d procedures are tested", count)
	}
}

// TestP13_3Rename renames each variable of random procedures.
func TestP13_3Rename(t *testing.T) {
	for _, p := range randomProcs(1000) {
		want, e := resultsOf(p), Check(p)
		for _, name := range ast.Names(p) {
			q, err := ast.Rename(p, name, "renamed")
			if err != api.OK {
				t.Fatalf("Rename from %s has the error %d of\n%s", name, err, show(p))
			}
			checkProc(t, q, want, e)
		}
	}
}

// TestP13_3Loop puts a loop around the bodies of random procedures, and two of them.
func TestP13_3Loop(t *testing.T) {
	around := func(body []api.Stmt, name string, most int) []api.Stmt {
		one := api.Expr{Op: api.EInt, N: 1}
		return []api.Stmt{{Op: api.SFor, Name: name, A: one, B: one, Max: most, Body: body}}
	}
	// The steps of the iterations, and what they execute, are added up one by one.
	times := func(n amounts, most int) amounts {
		total := amounts{steps: 1}
		for range most {
			total = sum(total, sum(amounts{steps: 1}, n))
		}
		return saturate(total)
	}
	passed, tooMany := 0, 0
	for i, p := range randomProcs(1000) {
		n := resultsOf(p)
		if n == none() {
			continue
		}
		for most := 1; most <= 16; most++ {
			q := api.Proc{Name: "q", Params: p.Params, Body: around(p.Body, "outer", most)}
			if ast.Validate(q) != api.OK {
				continue
			}
			want := times(n, most)
			checkProc(t, q, want, definedCheck(q))
			if want.steps <= mostSteps {
				passed++
			} else {
				tooMany++
			}
			second := 1 + i%16
			q.Body = around(q.Body, "outmost", second)
			if ast.Validate(q) == api.OK {
				checkProc(t, q, times(want, second), definedCheck(q))
			}
		}
	}
	if passed < 5000 || tooMany < 300 {
		t.Errorf("%d loops have few enough steps, and %d too many", passed, tooMany)
	}
}
