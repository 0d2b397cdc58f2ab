package interp

import (
	"clockwork/api"
	"clockwork/cost"
	"clockwork/types"
	"fmt"
	"math"
	"slices"
	"strings"
	"testing"
)

// committed is the effect of a run that commits, with the keys that it reads, what it writes (as pairsOf has it), and what it emits.
func committed(steps int, reads string, writes []any, out ...any) api.Effect {
	e := api.Effect{Outcome: api.Outcome{Status: 1}, Reads: strings.Fields(reads), Writes: pairsOf(writes...), Steps: steps}
	for _, p := range e.Writes {
		e.Puts = append(e.Puts, p.Key)
	}
	for _, x := range out {
		e.Outcome.Out = append(e.Outcome.Out, pairsOf("", x)[0].Val)
	}
	return e
}

// aborts is the effect of a run that aborts with the code.
func aborts(code, steps int, reads, puts string) api.Effect {
	return api.Effect{Outcome: api.Outcome{Status: 2, Code: code}, Reads: strings.Fields(reads), Puts: strings.Fields(puts), Steps: steps}
}

// restarts is the effect of a run that restarts with the key.
func restarts(miss string, steps int, reads, puts string) api.Effect {
	return api.Effect{Outcome: api.Outcome{Status: 3}, Miss: miss, Reads: strings.Fields(reads), Puts: strings.Fields(puts), Steps: steps}
}

// foot returns the footprint with these keys, or the one that allows everything.
func foot(reads, writes string) api.Footprint {
	if reads == "all" {
		return everything()
	}
	return api.Footprint{Reads: strings.Fields(reads), Writes: strings.Fields(writes)}
}

// usual are the state and the arguments of most runs.
func usual() ([]api.Value, []api.Pair) {
	return []api.Value{str("x"), integer(2)}, pairsOf("s", "abc", "x", 5)
}

// checkBody requires the effect of a usual run of a procedure with this body.
func checkBody(t *testing.T, body string, foot api.Footprint, want api.Effect) {
	t.Helper()
	args, pairs := usual()
	checkRun(t, proc(t, body), args, pairs, foot, want)
}

func TestP15_2Examples(t *testing.T) {
	p := proc(t, "put k = getint(k) + n;")
	args, pairs := []api.Value{str("x"), integer(2)}, pairsOf("x", 5)
	checkRun(t, p, args, pairs, foot("x", "x"), committed(1, "x", []any{"x", 7}))
	checkRun(t, p, args, pairs, foot("", ""), restarts("x", 1, "", ""))
	checkRun(t, p, args, pairs, foot("x", ""), restarts("x", 1, "x", ""))
	checkRun(t, p, args, pairs, foot("", "x"), restarts("x", 1, "", ""))
	checkRun(t, p, args, pairs, everything(), committed(1, "x", []any{"x", 7}))
	checkRun(t, p, []api.Value{str("X"), integer(2)}, pairs, foot("x", "x"), aborts(1004, 1, "", ""))
	checkRun(t, p, []api.Value{str("X"), integer(2)}, pairs, everything(), aborts(1004, 1, "", ""))
	checkRun(t, p, []api.Value{str("y"), integer(2)}, pairs, everything(), committed(1, "y", []any{"y", 2}))
	checkRun(t, p, []api.Value{str("x"), integer(math.MaxInt64)}, pairs, everything(), aborts(1001, 1, "x", ""))
	checkRun(t, p, []api.Value{str("x"), integer(2)}, pairsOf("x", "5"), everything(), aborts(1003, 1, "x", ""))
}

// none are no writes.
var none []any

// TestP15_2Statements has each kind of statement.
func TestP15_2Statements(t *testing.T) {
	for body, want := range map[string]api.Effect{
		"": committed(0, "", none),

		"emit n; emit k; emit 1; emit \"\";":                         committed(4, "", none, 2, "x", 1, ""),
		"let a = n + 1; emit a; let b = k; emit b;":                  committed(4, "", none, 3, "x"),
		"let a = n == 2; if a { emit 1; }":                           committed(3, "", none, 1),
		"n = 5; emit n; n = n * n; emit n; k = k ++ k; emit k;":      committed(6, "", none, 5, 25, "xx"),
		"let a = n; n = 3; emit a; a = 4; emit n;":                   committed(5, "", none, 2, 3),
		"let a = getint(k); a = a + 1; emit a; emit getint(k);":      committed(4, "x", none, 6, 5),
		"let b = has(k); b = not b; if b { emit 1; } else {emit 2;}": committed(4, "x", none, 2),

		"put k = 1;":                             committed(1, "", []any{"x", 1}),
		"put k = k;":                             committed(1, "", []any{"x", "x"}),
		`put "" ++ k = getint(k);`:               committed(1, "x", []any{"x", 5}),
		`put "s" = 1; put "a" = 2; put k = n;`:   committed(3, "", []any{"a", 2, "s", 1, "x", 2}),
		"put k = 1; put k = 2; put k = k ++ k;":  committed(3, "", []any{"x", "xx"}),
		"delete k;":                              committed(1, "", []any{"x", nil}),
		`delete "none"; delete "s"; delete "s";`: committed(3, "", []any{"none", nil, "s", nil}),
		`put "a" = 1; delete "a"; delete k; put k = 3; delete "b"; put "b" = "";`: committed(6, "", []any{"a", nil, "b", "", "x", 3}),
		`put getstr("s") = len(getstr("s")); delete text(getint(k));`:             committed(2, "s x", []any{"5", nil, "abc", 3}),

		"if n == 2 { emit 1; emit 2; } else { emit 3; } emit 4;":                               committed(4, "", none, 1, 2, 4),
		"if n != 2 { emit 1; emit 2; } else { emit 3; } emit 4;":                               committed(3, "", none, 3, 4),
		"if n == 2 {} else { emit 3; }":                                                        committed(1, "", none),
		"if n != 2 { emit 1; }":                                                                committed(1, "", none),
		"if n == 2 { if has(k) { if k == \"x\" { emit 1; } } }":                                committed(4, "x", none, 1),
		"if n != 2 { emit getint(\"s\"); } else { put k = getint(k);}":                         committed(2, "x", []any{"x", 5}),
		"if n == 2 { n = 3; let a = 1; n = n + a; } emit n;":                                   committed(5, "", none, 4),
		"if n == 2 { let a = 1; emit a; } if n == 2 { let b = 2; emit b; } let c = 3; emit c;": committed(8, "", none, 1, 2, 3),

		"abort 0;":                               aborts(0, 1, "", ""),
		"abort 999;":                             aborts(999, 1, "", ""),
		"emit 1; put k = 1; abort 7; emit 2;":    aborts(7, 3, "", "x"),
		"if has(k) { abort 1; } else {abort 2;}": aborts(1, 2, "x", ""),
		"if has(k ++ k) { abort 1; } else { delete \"w\"; abort 2; } abort 3;":    aborts(2, 3, "xx", "w"),
		"put \"b\" = getint(k); put \"a\" = 1; emit 1; n = 1 / 0; put \"c\" = 1;": aborts(1002, 4, "x", "a b"),
		"for i = 0 to n max 2 { put text(i) = i; if i == 1 { abort 42; } }":       aborts(42, 8, "", "0 1"),
	} {
		checkBody(t, body, everything(), want)
	}
}

// TestP15_2Own reads keys that the run has put or deleted before.
func TestP15_2Own(t *testing.T) {
	only := foot("", "s x y")
	for body, want := range map[string]api.Effect{
		`put k = 1; emit getint(k);`:                                             committed(2, "", []any{"x", 1}, 1),
		`put k = 1; if has(k) { emit 1; }`:                                       committed(3, "", []any{"x", 1}, 1),
		`put k = "a"; emit getstr(k); if has(k) { emit 2; }`:                     committed(4, "", []any{"x", "a"}, "a", 2),
		`delete k; emit getint(k); emit getstr(k); if not has(k) { emit 1; }`:    committed(5, "", []any{"x", nil}, 0, "", 1),
		`put k = 1; delete k; emit getint(k);`:                                   committed(3, "", []any{"x", nil}, 0),
		`delete k; put k = 1; emit getint(k);`:                                   committed(3, "", []any{"x", 1}, 1),
		`put k = 1; put k = getint(k) + 1; put k = getint(k) * 10;`:              committed(3, "", []any{"x", 20}),
		`put k = 0; if has(k) { emit 1; } put "y" = ""; if has("y") { emit 2; }`: committed(6, "", []any{"x", 0, "y", ""}, 1, 2),
		`put k = "5"; emit getint(k);`:                                           aborts(1003, 2, "", "x"),
		`put "s" = 5; emit getstr("s");`:                                         aborts(1003, 2, "", "s"),
		`put k = ""; emit getint(k);`:                                            aborts(1003, 2, "", "x"),
		`put k = 1; put k = "a"; emit getint(k);`:                                aborts(1003, 3, "", "x"),
		`put k = 1; emit getint(k); emit getint("y");`:                           restarts("y", 3, "", "x"),
	} {
		checkBody(t, body, only, want)
		// A footprint that allows more changes nothing, unless the run restarts.
		if want.Outcome.Status != api.StRestart {
			checkBody(t, body, everything(), want)
			checkBody(t, body, foot("s x", "s x y"), want)
		}
	}
	// What was read before the run puts the key stays in Reads.
	checkBody(t, `emit getint(k); put k = 1; emit getint(k);`, everything(), committed(3, "x", []any{"x", 1}, 5, 1))
	checkBody(t, `emit getint(k); delete k; emit getint(k);`, everything(), committed(3, "x", []any{"x", nil}, 5, 0))
	checkBody(t, `put "y" = getint(k); delete "s"; put k = getint("y"); emit getint(k) + getint("s");`, foot("x", "s x y"), committed(4, "x", []any{"s", nil, "x", 5, "y", 5}, 5))
}

// TestP15_2Writes has put and delete statements whose key, value or footprint ends the run.
func TestP15_2Writes(t *testing.T) {
	for body, want := range map[string]api.Effect{
		`put k = 1;`:                           restarts("x", 1, "", ""),
		`delete k;`:                            restarts("x", 1, "", ""),
		`put "w" = 1; put k = 1; put "v" = 2;`: restarts("x", 2, "", "w"),
		`put "w" = 1; delete k; put "v" = 2;`:  restarts("x", 2, "", "w"),
		`emit 1; put k = getint("r");`:         restarts("x", 2, "r", ""),
		`put k = getint(k);`:                   restarts("x", 1, "", ""),
		`put getstr(k) = getint("r");`:         restarts("x", 1, "", ""),
		`put getstr("r") = getint(k);`:         restarts("x", 1, "r", ""),
		`put "r" = getint("r");`:               restarts("r", 1, "r", ""),
		`delete getstr("r") ++ k;`:             restarts("x", 1, "r", ""),

		`put "X" = 1;`:                   aborts(1004, 1, "", ""),
		`put "" = 1;`:                    aborts(1004, 1, "", ""),
		`delete "X";`:                    aborts(1004, 1, "", ""),
		`delete "";`:                     aborts(1004, 1, "", ""),
		`delete "a b"; delete k;`:        aborts(1004, 1, "", ""),
		`put "w" = 1; put "w!" = 2;`:     aborts(1004, 2, "", "w"),
		`put getstr("r") = 1;`:           aborts(1004, 1, "r", ""),
		`delete getstr("r");`:            aborts(1004, 1, "r", ""),
		`put "X" = 1 / 0;`:               aborts(1002, 1, "", ""),
		`put "X" = getint("r");`:         aborts(1004, 1, "r", ""),
		`put "X" = getint(k);`:           restarts("x", 1, "", ""),
		`put k = 1 / 0;`:                 aborts(1002, 1, "", ""),
		`put k = getint("R");`:           aborts(1004, 1, "", ""),
		`put text(1 / 0) = getint("R");`: aborts(1002, 1, "", ""),
		`delete text(1 / 0);`:            aborts(1002, 1, "", ""),
		`delete getstr(k);`:              restarts("x", 1, "", ""),
		`put "` + long(24) + `" = 1;`:    restarts(long(24), 1, "", ""),
		`put "` + long(25) + `" = 1;`:    aborts(1004, 1, "", ""),
		`delete "` + long(64) + `";`:     aborts(1004, 1, "", ""),

		`put "w" = 1;`:                           committed(1, "", []any{"w", 1}),
		`delete "w"; put "w" = getint("r") + 1;`: committed(2, "r", []any{"w", 1}),
	} {
		checkBody(t, body, foot("r w", "w"), want)
	}
}

// TestP15_2Ends ends the run in each expression of each kind of statement.
func TestP15_2Ends(t *testing.T) {
	forms := []string{
		"let a = I;", "let a = S;", "let a = B;", "n = I;", "k = S;", "emit I;", "emit S;", "put S = 1;", `put "w" = I;`, `put "w" = S;`, "delete S;",
		"if B { emit 1; } else { emit 2; }", "for i = I to 1 max 1 { emit 1; }", "for i = 0 to I max 1 { emit 1; }",
	}
	ends := map[string]api.Effect{
		"1 / 0": aborts(1002, 4, "", "v"), `getint("s")`: aborts(1003, 4, "s", "v"), `getint("S")`: aborts(1004, 4, "", "v"), `len(k ++ "` + long(64) + `")`: aborts(1006, 4, "", "v"),
		"9223372036854775807 + n": aborts(1001, 4, "", "v"), `getint("out")`: restarts("out", 4, "", "v"), `getint("x") + getint("out")`: restarts("out", 4, "x", "v"), `1 / getint("v")`: aborts(1002, 4, "", "v"),
	}
	for _, form := range forms {
		for end, want := range ends {
			e := strings.NewReplacer("I", end, "S", "text("+end+")", "B", "1 == "+end).Replace(form)
			checkBody(t, `emit 1; put "v" = 0; if n == 2 { `+e+` emit 2; put "w" = 1; } delete "w";`, foot("s x", "v w"), want)
			// The same happens in the second iteration of a loop.
			want.Steps += 5
			checkBody(t, `emit 1; put "v" = 0; for j = 0 to 2 max 2 { if j == 1 { if n == 2 { `+e+` emit 2; } put "w" = 1; } } delete "w";`, foot("s x", "v w"), want)
		}
	}
}

// TestP15_2Loops has loops with bounds of all kinds.
func TestP15_2Loops(t *testing.T) {
	bounds := []int64{math.MinInt64, math.MinInt64 + 1, math.MinInt64 + 15, math.MinInt64 + 16, math.MinInt64 + 17, -20, -2, -1, 0, 1, 2, 3, 15, 16, 17, 40, math.MaxInt64 - 17, math.MaxInt64 - 16, math.MaxInt64 - 3, math.MaxInt64 - 1, math.MaxInt64}
	for _, most := range []int{1, 2, 3, 15, 16} {
		p := proc(t, fmt.Sprintf(`for i = n to getint("to") max %d { emit i; }`, most))
		for _, from := range bounds {
			for _, to := range bounds {
				want := committed(1, "to", none)
				for i := from; i < to && len(want.Outcome.Out) <= most; i++ {
					want.Outcome.Out = append(want.Outcome.Out, integer(i))
					want.Steps += 2
				}
				if len(want.Outcome.Out) > most {
					want = aborts(1005, 1, "to", "")
				}
				checkRun(t, p, []api.Value{str(""), integer(from)}, []api.Pair{{Key: "to", Val: integer(to)}}, everything(), want)
			}
		}
	}
	for body, want := range map[string]api.Effect{
		"for i = 0 to 0 max 3 { emit i; } emit 9;":                                              committed(2, "", none, 9),
		"for i = 0 to 3 max 3 {} emit 9;":                                                       committed(5, "", none, 9),
		"for i = 0 to n max 3 { n = 9; emit i; } emit n;":                                       committed(8, "", none, 0, 1, 9),
		"let a = 1; for i = a to a + 2 max 2 { a = a + i; emit a; } emit a;":                    committed(9, "", none, 2, 4, 4),
		"for i = getint(k) to getint(k) + 1 max 1 { delete k; emit i; emit getint(k); }":        committed(5, "x", []any{"x", nil}, 5, 0),
		"for i = 0 to 2 max 2 { for j = i to 2 max 2 { emit i * 10 + j; } } emit 7;":            committed(12, "", none, 0, 1, 11, 7),
		"for i = 0 to 2 max 5 { let a = i; a = a + 1; emit a; }":                                committed(9, "", none, 1, 2),
		"for i = 0 to 3 max 3 { if i == 1 { let a = i; emit a; } else { let b = n; emit b; } }": committed(13, "", none, 2, 1, 2),
		"for i = 0 to 2 max 2 { put k = getint(k) + 10; } emit getint(k);":                      committed(6, "x", []any{"x", 25}, 25),
		"for i = 0 to 2 max 1 { emit 1; }":                                                      aborts(1005, 1, "", ""),
		"for i = 1 / 0 to getint(k) max 1 {}":                                                   aborts(1002, 1, "", ""),
		"for i = getint(k) to 1 / 0 max 1 {}":                                                   aborts(1002, 1, "x", ""),
		"for i = 0 to 2 max 2 { for j = 0 to 2 - i max 1 {} }":                                  aborts(1005, 3, "", ""),
		"put k = 1; for i = getint(k) to 9 max 7 { emit 1; }":                                   aborts(1005, 2, "", "x"),
	} {
		checkBody(t, body, everything(), want)
	}
}

// TestP15_2Variables has variables that must keep their values, or get new ones.
func TestP15_2Variables(t *testing.T) {
	for body, want := range map[string]api.Effect{
		"let a = 1; if n == 2 { a = 2; let b = a; a = b + 1; } emit a;":      committed(6, "", none, 3),
		"let a = k; k = \"y\"; emit a ++ k; emit getint(a); emit getint(k);": committed(5, "x y", none, "xy", 5, 0),
		"let a = 1; let b = 2; let c = a; a = b; b = c; emit a * 10 + b;":    committed(6, "", none, 21),
		"let a = 0; for i = 0 to 4 max 4 { let b = a; a = b + i; } emit a;":  committed(15, "", none, 6),
		"let a = other;": rejection(),
		"let t = 1 == 1; let f = not t; if f { emit 1; } if t { emit 2; } t = f; if t {emit 3;}": committed(7, "", none, 2),
		"let a = getint(k); put k = 6; emit a; a = getint(k); put k = 7; emit a;":                committed(6, "x", []any{"x", 7}, 5, 6),
	} {
		checkBody(t, body, everything(), want)
	}
	p := api.Proc{Name: "p", Body: proc(t, "emit 1;").Body}
	checkRun(t, p, nil, nil, api.Footprint{}, committed(1, "", none, 1))
	checkRun(t, p, []api.Value{}, []api.Pair{}, api.Footprint{Reads: []string{}, Writes: []string{}}, committed(1, "", none, 1))
	for number := range 7 {
		many := api.Proc{Name: "p"}
		var args []api.Value
		want := committed(number, "", none)
		for i := range number {
			name := string(rune('f' - i))
			many.Params = append(many.Params, api.Param{Name: name, Type: 1 + i%2})
			args = append(args, []api.Value{integer(int64(i)), str(fmt.Sprint(i))}[i%2])
			many.Body = append(many.Body, api.Stmt{Op: api.SEmit, A: api.Expr{Op: api.EVar, S: name}})
		}
		want.Outcome.Out = args
		checkRun(t, many, args, nil, api.Footprint{}, want)
	}
}

// TestP15_2Limits has runs with as many emitted values, gets, puts and steps as an accepted procedure can have.
func TestP15_2Limits(t *testing.T) {
	want := committed(33, "", none)
	for i := range 16 {
		want.Outcome.Out = append(want.Outcome.Out, integer(int64(i)))
	}
	checkBody(t, "for i = 0 to 16 max 16 { emit i; }", foot("", ""), want)

	text := ""
	full := api.Effect{Outcome: api.Outcome{Status: 1}, Steps: 64}
	for i := range 64 {
		text += fmt.Sprintf(`put "w%02d" = getint("r%02d") + %d;`, 63-i, 63-i, 63-i)
		full.Reads, full.Puts = append(full.Reads, fmt.Sprintf("r%02d", i)), append(full.Puts, fmt.Sprintf("w%02d", i))
		full.Writes = append(full.Writes, api.Pair{Key: full.Puts[i], Val: integer(int64(i))})
	}
	checkBody(t, text, api.Footprint{Reads: full.Reads, Writes: full.Puts}, full)
	checkBody(t, text, everything(), full)
	checkBody(t, text, api.Footprint{Reads: full.Reads, Writes: full.Puts[1:]}, api.Effect{Outcome: api.Outcome{Status: 3}, Miss: "w00", Reads: full.Reads, Puts: full.Puts[1:], Steps: 64})
	checkBody(t, text, api.Footprint{Reads: full.Reads[1:], Writes: full.Puts}, api.Effect{Outcome: api.Outcome{Status: 3}, Miss: "r00", Reads: full.Reads[1:], Puts: full.Puts[1:], Steps: 64})

	// 1 + 3 * (1 + 5460) steps are the limit.
	checkBody(t, "for i = 0 to 3 max 3 {"+busy(5460)+"}", foot("", ""), committed(mostSteps, "", none))
	checkBody(t, "for i = 0 to n max 3 {"+busy(5460)+"}", foot("", ""), committed(1+2*5461, "", none))
}

// busy returns a body that executes so many steps.
func busy(steps int) string {
	text := ""
	for _, nest := range []struct{ loops, steps int }{{3, 4641}, {2, 289}, {1, 17}} {
		for i := range steps / nest.steps {
			body := ""
			for j := range nest.loops {
				body = fmt.Sprintf("for b%d_%d_%d = 0 to 16 max 16 {%s}", nest.loops, i, j, body)
			}
			text += body
		}
		steps %= nest.steps
	}
	return text + strings.Repeat("n = n;", steps)
}

// performed returns the effect of a run of the procedure, and of one for the test, whether the procedure is accepted or not.
func performed(p api.Proc) (effect, defined api.Effect) {
	r, _ := newRun(nil, everything())
	m := newMachine(nil, everything())
	r.vars["k"], r.vars["n"] = str("x"), integer(2)
	m.vars["k"], m.vars["n"] = plain(str("x")), plain(integer(2))
	m.run(p.Body)
	return r.perform(func() { r.list(p.Body) }), m.effect()
}

// TestP15_2Fuel has the aborts of runs with too many steps and emitted values. Accepted procedures have none, so that they are not executed by Run.
func TestP15_2Fuel(t *testing.T) {
	for body, want := range map[string]api.Effect{
		busy(mostSteps):                                                                committed(mostSteps, "", none),
		busy(mostSteps) + "emit 1;":                                                    aborts(1008, mostSteps+1, "", ""),
		busy(mostSteps) + "n = 1 / 0;":                                                 aborts(1008, mostSteps+1, "", ""),
		"put k = getint(k);" + busy(mostSteps-1) + "abort 3;":                          aborts(1008, mostSteps+1, "x", "x"),
		"put k = getint(k);" + busy(mostSteps-2) + "abort 3;":                          aborts(3, mostSteps, "x", "x"),
		busy(mostSteps-1) + "for i = 0 to 0 max 1 {}":                                  committed(mostSteps, "", none),
		busy(mostSteps-1) + "for i = 0 to 1 max 1 {}":                                  aborts(1008, mostSteps+1, "", ""),
		busy(mostSteps-2) + "for i = 0 to 1 max 1 {}":                                  committed(mostSteps, "", none),
		busy(mostSteps-2) + "for i = 0 to 1 max 1 { abort 1; }":                        aborts(1008, mostSteps+1, "", ""),
		strings.Repeat("for i = 0 to 16 max 16 {", 9) + strings.Repeat("}", 9):         aborts(1008, mostSteps+1, "", ""),
		strings.Repeat("emit n;", 16) + "abort 1;":                                     aborts(1, 17, "", ""),
		strings.Repeat("emit n;", 17):                                                  aborts(1007, 17, "", ""),
		strings.Repeat("emit n;", 16) + "emit 1 / 0;":                                  aborts(1002, 17, "", ""),
		strings.Repeat("emit n;", 16) + "put k = 1; emit k;":                           aborts(1007, 18, "", "x"),
		"for i = 0 to 4 max 4 { for j = 0 to 5 max 5 { put k = i * 5 + j; emit 1; } }": aborts(1007, 60, "", "x"),
	} {
		p := proc(t, body)
		effect, defined := performed(p)
		checkEffect(t, effect, defined, want, show(p))
	}
}

// rejectedProcs are procedures for which cost.Check has all kinds of errors, with the parameters k: str and n: int.
func rejectedProcs(t *testing.T) []api.Proc {
	var list []api.Proc
	for _, body := range []string{
		"emit y;", "y = 1;", "if n == 1 { let a = 1; } emit a;", "let n = 1;", "for i = 0 to 1 max 1 { i = 2; }", "emit -k;", "put n = 1;", "put k = has(k);", "delete n;", "if n {}", "for i = k to 1 max 1 {}", "emit has(k);", "n = k;",
		"emit now();", "put k = random();", "if 1 == 2 { emit node(); }", busy(mostSteps + 1), "if n == 1 {" + busy(mostSteps) + "}", strings.Repeat("emit 1;", 17), "for i = 0 to 0 max 16 { emit 1; emit 2; }",
		strings.Repeat("delete k;", 65), "for i = 0 to 0 max 13 {" + strings.Repeat("n = getint(k);", 5) + "}", "if n == 2 {} else {" + strings.Repeat("emit 1;", 17) + "}",
	} {
		list = append(list, proc(t, body))
	}
	good := proc(t, "emit 1; delete k;")
	for _, change := range []func(p *api.Proc){
		func(p *api.Proc) { p.Name = "" }, func(p *api.Proc) { p.Name = "P" }, func(p *api.Proc) { p.Params[0].Name = "n" }, func(p *api.Proc) { p.Params[0].Name = "if" },
		func(p *api.Proc) { p.Params[1].Type = 0 }, func(p *api.Proc) { p.Params[1].Type = api.TyBool }, func(p *api.Proc) { p.Params = slices.Repeat(p.Params, 4) },
		func(p *api.Proc) { p.Body[0].Op = 0 }, func(p *api.Proc) { p.Body[0].Op = 9 }, func(p *api.Proc) { p.Body[0].Name = "a" }, func(p *api.Proc) { p.Body[0].Body = slices.Clone(p.Body) },
		func(p *api.Proc) { p.Body = append(p.Body, api.Stmt{Op: api.SAbort, Max: 1000}) }, func(p *api.Proc) { p.Body = append(p.Body, api.Stmt{Op: api.SAbort, Max: -1}) },
		func(p *api.Proc) {
			p.Body = append(p.Body, api.Stmt{Op: api.SFor, Name: "i", A: p.Body[0].A, B: p.Body[0].A, Max: 17})
		},
		func(p *api.Proc) { p.Body = append(p.Body, slices.Repeat([]api.Stmt{{Op: api.SAbort}}, 400)...) },
	} {
		p := api.Proc{Name: good.Name, Params: slices.Clone(good.Params), Body: slices.Clone(good.Body)}
		change(&p)
		list = append(list, p)
	}
	return append(list, api.Proc{})
}

// TestP15_2Rejected has procedures that are not accepted, wrong arguments, and states and footprints that are not valid.
func TestP15_2Rejected(t *testing.T) {
	args, pairs := usual()
	bodies := []string{"", "emit 1;", "put k = getint(k);", "n = 1 / 0;", "abort 5;", `emit getint("out");`, `if n == 2 { delete k; }`}
	for _, p := range rejectedProcs(t) {
		if cost.Check(p) == api.OK {
			t.Fatalf("the procedure is accepted:\n%s", show(p))
		}
		for _, f := range []api.Footprint{everything(), foot("x", "x"), {}} {
			checkRun(t, p, args, pairs, f, rejection())
			checkRun(t, p, nil, nil, f, rejection())
		}
	}
	wrongArgs := [][]api.Value{nil, args[:1], append(slices.Clone(args), integer(1)), {args[1], args[0]}, {args[0], args[0]}, {args[1], args[1]}, {str("x"), boolean(true)}, {boolean(false), integer(1)}, {str("x"), {}}}
	for _, v := range wrongValues() {
		wrongArgs = append(wrongArgs, []api.Value{v, integer(1)}, []api.Value{str("x"), v})
	}
	for _, body := range bodies {
		p := proc(t, body)
		for _, wrong := range wrongArgs {
			if types.Args(p, wrong) == api.OK {
				t.Fatalf("the arguments %q are right", texts(wrong))
			}
			checkRun(t, p, wrong, pairs, everything(), rejection())
			checkRun(t, p, wrong, pairs, foot("x", "x"), rejection())
		}
		for _, wrong := range wrongStates() {
			checkRun(t, p, args, wrong, everything(), rejection())
			checkRun(t, p, args, wrong, foot("x", "x"), rejection())
		}
		for _, wrong := range wrongFoots() {
			checkRun(t, p, args, pairs, wrong, rejection())
			checkRun(t, p, args, nil, wrong, rejection())
		}
	}
	// These are valid.
	for _, f := range goodFoots() {
		if !isFoot(f) {
			t.Errorf("for the test, the footprint %+v is not valid", f)
		}
		checkBody(t, `emit getint("k");`, f, committed(1, "k", none, 0))
	}
	for _, v := range []api.Value{str(""), str(long(64)), str(" ~"), integer(math.MinInt64), integer(math.MaxInt64)} {
		checkRun(t, proc(t, `emit 1;`), args, []api.Pair{{Key: "-", Val: v}, {Key: long(24), Val: v}}, api.Footprint{}, committed(1, "", none, 1))
	}
}

// TestP15_3Free executes procedures without a footprint.
func TestP15_3Free(t *testing.T) {
	args, pairs := usual()
	for _, body := range []string{"", "emit 1;", "put k = getint(k);", "n = 1 / 0;", "abort 5;", `emit getint("out");`, `put "X" = 1;`, "emit y;", "emit getint(getstr(\"s\"));"} {
		p := proc(t, body)
		want := definedRun(p, args, pairs, everything())
		checkEffect(t, Free(p, args, pairs), Run(p, args, pairs, api.Footprint{All: true}), want, show(p))
		checkEffect(t, Free(p, args[1:], pairs), rejection(), rejection(), show(p))
		checkEffect(t, Free(p, args, pairsOf("b", 1, "a", 1)), rejection(), rejection(), show(p))
	}
	checkEffect(t, Free(proc(t, "put k = getint(k) + n;"), args, pairs), definedRun(proc(t, "put k = getint(k) + n;"), args, pairs, everything()), committed(1, "x", []any{"x", 7}), "add")
}
