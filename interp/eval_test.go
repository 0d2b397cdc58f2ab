package interp

import (
	"clockwork/api"
	"fmt"
	"math"
	"slices"
	"strings"
	"testing"
)

// evaluated is the effect of an evaluation that reads these keys.
func evaluated(reads ...string) api.Effect {
	return api.Effect{Outcome: api.Outcome{Status: 1}, Reads: reads}
}

// stopped is the effect of an evaluation that aborts with the code after it has read these keys.
func stopped(code int, reads ...string) api.Effect {
	return api.Effect{Outcome: api.Outcome{Status: 2, Code: code}, Reads: reads}
}

// missed is the effect of an evaluation that restarts with the key after it has read these keys.
func missed(miss string, reads ...string) api.Effect {
	return api.Effect{Outcome: api.Outcome{Status: 3}, Miss: miss, Reads: reads}
}

// checkEval requires the result of an evaluation, and that the definition has it, too.
func checkEval(t *testing.T, e api.Expr, vars, pairs []api.Pair, foot api.Footprint, v api.Value, want api.Effect) {
	t.Helper()
	of := fmt.Sprintf("%+v with the variables %q, the state %q and the footprint %+v", e, pairTexts(vars), pairTexts(pairs), foot)
	got, effect := Eval(e, vars, pairs, foot)
	definedV, defined := definedEval(e, vars, pairs, foot)
	checkEffect(t, effect, defined, want, of)
	if got != v || definedV != v {
		t.Fatalf("the value is %q, for the test %q, want %q, of\n%s", valueText(got), valueText(definedV), valueText(v), of)
	}
}

// long returns a string of so many bytes.
func long(bytes int) string { return strings.Repeat("y", bytes) }

// variables are some of each type.
func variables() []api.Pair {
	return []api.Pair{
		{Key: "n", Val: integer(7)}, {Key: "m", Val: integer(-7)}, {Key: "top", Val: integer(math.MaxInt64)}, {Key: "low", Val: integer(math.MinInt64)},
		{Key: "s", Val: str("abc")}, {Key: "nothing", Val: str("")}, {Key: "full", Val: str(long(mostString))},
		{Key: "yes", Val: boolean(true)}, {Key: "no", Val: boolean(false)},
	}
}

// TestP15_1Results has operators with their results.
func TestP15_1Results(t *testing.T) {
	for text, want := range map[string]any{
		"0": 0, "25": 25, `""`: "", `"a b"`: "a b", "n": 7, "low": math.MinInt64, "s": "abc", "yes": true, "no": false,
		"n + m": 0, "n + n": 14, "top + 0": math.MaxInt64, "top + low": -1, "top + 1": stop(1001), "low + m": stop(1001), "1 + top": stop(1001), "low + n": math.MinInt64 + 7,
		"n - m": 14, "m - n": -14, "low - 0": math.MinInt64, "low - 1": stop(1001), "0 - low": stop(1001), "top - m": stop(1001), "0 - top": -math.MaxInt64, "1 - n": -6,
		"n * m": -49, "n * 0": 0, "top * 1": math.MaxInt64, "low * m": stop(1001), "top * 2": stop(1001), "low * 1": math.MinInt64, "4611686018427387904 * 2": stop(1001),
		"n / 2": 3, "m / 2": -4, "7 / m": -1, "m / m": 1, "1 / m": -1, "0 / m": 0, "n / 0": stop(1002), "0 / 0": stop(1002), "low / (0 - 1)": stop(1001), "top / (0 - 1)": -math.MaxInt64, "2 / 7": 0,
		"n % 2": 1, "m % 2": 1, "1 % m": -6, "m % m": 0, "0 % 3": 0, "n % 0": stop(1002), "low % (0 - 1)": 0, "8 % n": 1, "m % 5": 3, "n % 10": 7,
		"-n": -7, "-m": 7, "-0": 0, "-top": -math.MaxInt64, "-low": stop(1001),

		"n == 7": true, "n == m": false, `s == "abc"`: true, "s == full": false, `nothing == ""`: true, "yes == yes": true, "yes == no": false, "no == no": true, "no == yes": false,
		"n != 7": false, "n != m": true, `s != "abc"`: false, "s != full": true, `nothing != ""`: false, "yes != yes": false, "yes != no": true, "no != no": false, "no != yes": true,
		"m < n": true, "n < n": false, "n < m": false, "low < top": true, "s < full": true, "s < s": false, "full < s": false, `"a" < "B"`: false, `"B" < "a"`: true, "nothing < s": true, `"ab" < s`: true, `s < "b"`: true,
		"m <= n": true, "n <= n": true, "n <= m": false, "s <= full": true, "s <= s": true, "full <= s": false, "s <= nothing": false, `"10" <= "9"`: true, "10 <= 9": false,
		"m > n": false, "n > n": false, "n > m": true, "top > low": true, "s > full": false, "s > s": false, "full > s": true, `"abcd" > s`: true, `"9" > "10"`: true, "9 > 10": false,
		"m >= n": false, "n >= n": true, "n >= m": true, "s >= full": false, "s >= s": true, "full >= s": true, "nothing >= s": false, "nothing >= nothing": true,
		"yes and yes": true, "yes and no": false, "no and yes": false, "no and no": false,
		"yes or yes": true, "yes or no": true, "no or yes": true, "no or no": false, "not yes": false, "not no": true,

		`s ++ "d"`: "abcd", `"d" ++ s`: "dabc", "nothing ++ nothing": "", "s ++ nothing": "abc", "full ++ nothing": long(64), "nothing ++ full": long(64), `full ++ "y"`: stop(1006), `"y" ++ full`: stop(1006), "full ++ full": stop(1006),
		`"` + long(60) + `" ++ "yyyy"`: long(64), `"` + long(60) + `" ++ "yyyyy"`: stop(1006), `full ++ "y" ++ nothing`: stop(1006),
		"text(n)": "7", "text(m)": "-7", "text(0)": "0", "text(top)": "9223372036854775807", "text(low)": "-9223372036854775808", "text(-0)": "0",
		"len(s)": 3, "len(nothing)": 0, "len(full)": 64, `len("a\"b\\")`: 4,

		"(n + m) * (top - 1)": 0, "len(s ++ text(n)) == 4 and not (n < m)": true, "n - 2 - 1": 4, "n / 2 * 2 + n % 2": 7, "text(len(text(low)))": "20", "2 * n - -m": 7,
		"no and 1 / 0 == 1": stop(1002), "yes or 1 / 0 == 1": stop(1002), "1 / 0 == 1 and no": stop(1002), "1 / 0 == 1 or yes": stop(1002),
		"none": stop(1009), "now()": stop(1009), "random()": stop(1009), "node()": stop(1009), "n + none": stop(1009), "yes or now() == 1": stop(1009), "-node()": stop(1009), "(n < m) == no": true, "yes == (s == s)": true,
	} {
		v, effect := api.Value{}, evaluated()
		switch want := want.(type) {
		case int:
			v = integer(int64(want))
		case string:
			v = str(want)
		case bool:
			v = boolean(want)
		case stop:
			effect = stopped(int(want))
		}
		checkEval(t, expr(t, text), variables(), nil, api.Footprint{}, v, effect)
	}
}

// signatures are the types of the operands that each operator has: I, S or B.
func signatures() map[int][]string {
	ints, orders := []string{"II"}, []string{"II", "SS"}
	return map[int][]string{
		api.EAdd: ints, api.ESub: ints, api.EMul: ints, api.EDiv: ints, api.EMod: ints, api.ENeg: {"I"},
		api.EEq: {"II", "SS", "BB"}, api.ENe: {"II", "SS", "BB"}, api.ELt: orders, api.ELe: orders, api.EGt: orders, api.EGe: orders,
		api.EAnd: {"BB"}, api.EOr: {"BB"}, api.ENot: {"B"}, api.ECat: {"SS"}, api.EText: {"I"}, api.ELen: {"S"},
		api.EGetInt: {"S"}, api.EGetStr: {"S"}, api.EHas: {"S"},
	}
}

// operandNames are the names of variables of each type, with values that could be taken for those of others.
func operandNames() map[string][]string {
	return map[string][]string{"I": {"i0", "i1"}, "S": {"s0", "s1"}, "B": {"b0", "b1"}}
}

// similar are these variables.
func similar() []api.Pair {
	return []api.Pair{{Key: "i0", Val: integer(0)}, {Key: "i1", Val: integer(1)}, {Key: "s0", Val: str("")}, {Key: "s1", Val: str("1")}, {Key: "b0", Val: boolean(false)}, {Key: "b1", Val: boolean(true)}}
}

// TestP15_1Types applies each operator to operands of all types.
func TestP15_1Types(t *testing.T) {
	names := operandNames()
	number := 0
	for op, accepted := range signatures() {
		for _, a := range []string{"I", "S", "B"} {
			for _, b := range []string{"I", "S", "B"} {
				for i := range 4 {
					e, types := api.Expr{Op: op, Args: []api.Expr{{Op: api.EVar, S: names[a][i%2]}}}, a
					if len(accepted[0]) == 2 {
						e.Args, types = append(e.Args, api.Expr{Op: api.EVar, S: names[b][i/2]}), a+b
					}
					v, effect := definedEval(e, similar(), nil, everything())
					isWrong := effect.Outcome.Code == api.AbProc
					if isWrong == slices.Contains(accepted, types) {
						t.Fatalf("for the test, the operator %d has another result: %s", op, describe(effect))
					}
					if isWrong {
						v, effect = api.Value{}, stopped(1009)
						number++
					}
					checkEval(t, e, similar(), nil, everything(), v, effect)
				}
			}
		}
	}
	if number != 4*(5*8+2*6+4*7+2*8+1*8+7*6) {
		t.Errorf("%d operands have wrong types", number)
	}
}

// operand is an expression, its type, and its effect.
type operand struct {
	text, ty string
	effect   api.Effect
}

// operands are such that end in all ways, with the footprint of TestP15_1Order.
func operands() []operand {
	return []operand{
		{"1", "I", evaluated()}, {`"x"`, "S", evaluated()}, {"1 == 1", "B", evaluated()},
		{`getint("i")`, "I", evaluated("i")}, {`getstr("s")`, "S", evaluated("s")}, {`has("h")`, "B", evaluated("h")},
		{"-low", "", stopped(1001)}, {"1 / 0", "", stopped(1002)}, {`getint("s")`, "", stopped(1003, "s")}, {`getstr("i")`, "", stopped(1003, "i")},
		{`has("X")`, "", stopped(1004)}, {`full ++ "x"`, "", stopped(1006)}, {"none", "", stopped(1009)}, {"now()", "", stopped(1009)}, {`-getstr("s")`, "", stopped(1009, "s")},
		{`has("out")`, "", missed("out")}, {`getint("w")`, "", missed("w")}, {`getint("i") + getint("w")`, "", missed("w", "i")}, {`has(getstr("s"))`, "", missed("i", "s")},
	}
}

// TestP15_1Order has operators with operands of which each ends in another way.
func TestP15_1Order(t *testing.T) {
	pairs := pairsOf("i", 5, "s", "i", "w", 1)
	for op, accepted := range signatures() {
		for _, a := range operands() {
			for _, b := range operands() {
				foot := api.Footprint{Reads: []string{"h", "i", "s"}, Writes: []string{"w"}}
				if strings.Contains(a.text+b.text, "has(getstr") {
					if strings.Contains(a.text+b.text, `"i"`) {
						continue
					}
					foot.Reads = []string{"h", "s"}
				}
				e, want, types := api.Expr{Op: op, Args: []api.Expr{expr(t, a.text)}}, a.effect, a.ty
				if len(accepted[0]) == 2 {
					e.Args = append(e.Args, expr(t, b.text))
					types += b.ty
					if a.effect.Outcome.Status == api.StCommit {
						want = b.effect
						want.Reads = slices.Compact(slices.Sorted(slices.Values(slices.Concat(a.effect.Reads, b.effect.Reads))))
					}
				}
				v, defined := definedEval(e, variables(), pairs, foot)
				switch {
				case want.Outcome.Status != api.StCommit:
				case !slices.Contains(accepted, types):
					want.Outcome = api.Outcome{Status: 2, Code: 1009}
				default:
					// The result of the operator is not what this test is about.
					want = defined
				}
				checkEval(t, e, variables(), pairs, foot, v, want)
			}
		}
	}
}

// TestP15_1Variables has variables of any names, some of them twice.
func TestP15_1Variables(t *testing.T) {
	x := api.Expr{Op: api.EVar, S: "x"}
	values := []api.Value{integer(0), integer(1), integer(math.MinInt64), str(""), str("x"), str(long(64)), boolean(false), boolean(true)}
	for _, a := range values {
		checkEval(t, x, []api.Pair{{Key: "x", Val: a}}, nil, api.Footprint{}, a, evaluated())
		for _, b := range values {
			checkEval(t, x, []api.Pair{{Key: "x", Val: a}, {Key: "x", Val: b}}, nil, api.Footprint{}, a, evaluated())
			checkEval(t, x, []api.Pair{{Key: "y", Val: b}, {Key: "x", Val: a}, {Key: "y", Val: b}, {Key: "x", Val: b}, {Key: "x", Val: a}}, nil, api.Footprint{}, a, evaluated())
			checkEval(t, x, []api.Pair{{Key: "xx", Val: a}, {Key: "X", Val: b}, {Key: "", Val: b}, {Key: "x ", Val: a}, {Key: "if", Val: b}}, nil, api.Footprint{}, api.Value{}, stopped(1009))
		}
	}
	checkEval(t, x, nil, pairsOf("x", 1), everything(), api.Value{}, stopped(1009))
	checkEval(t, x, []api.Pair{}, nil, everything(), api.Value{}, stopped(1009))
	checkEval(t, expr(t, `has("x") == has("x ")`), variables(), nil, everything(), api.Value{}, stopped(1004, "x"))
}

// wrongValues are such that no variable has.
func wrongValues() []api.Value {
	return []api.Value{
		{}, {N: 1}, {S: "x"}, {Kind: api.KInt, S: "x"}, {Kind: api.KInt, N: 1, S: " "}, {Kind: api.KStr, N: 1}, {Kind: api.KStr, N: -1, S: "x"},
		str(long(65)), str("a\nb"), str("\x1f"), str("\x7f"), str("é"), str("\x00"), {Kind: api.KBool, N: 2}, {Kind: api.KBool, N: -1}, {Kind: api.KBool, S: "x"}, {Kind: api.KBool, N: 1, S: "x"},
		{Kind: 4}, {Kind: -1}, {Kind: 4, N: 1}, {Kind: api.KInt + 256, N: 1},
	}
}

// wrongExprs are not valid.
func wrongExprs() []api.Expr {
	one := api.Expr{Op: api.EInt, N: 1}
	deep := one
	for range mostDepth {
		deep = api.Expr{Op: api.ENeg, Args: []api.Expr{deep}}
	}
	return []api.Expr{
		{}, {Op: -1}, {Op: 28}, {Op: 1 << 40}, {Op: api.EInt, N: -1}, {Op: api.EInt, S: "x"}, {Op: api.EInt, Args: []api.Expr{one}},
		{Op: api.EStr, S: long(65)}, {Op: api.EStr, S: "\n"}, {Op: api.EStr, N: 1}, {Op: api.EVar}, {Op: api.EVar, S: "if"}, {Op: api.EVar, S: "N"}, {Op: api.EVar, S: "n", N: 1},
		{Op: api.EAdd}, {Op: api.EAdd, Args: []api.Expr{one}}, {Op: api.EAdd, Args: []api.Expr{one, one, one}}, {Op: api.EAdd, N: 1, Args: []api.Expr{one, one}}, {Op: api.EAdd, S: "x", Args: []api.Expr{one, one}},
		{Op: api.ENeg}, {Op: api.ENeg, Args: []api.Expr{one, one}}, {Op: api.EGetInt}, {Op: api.EHas, Args: []api.Expr{{Op: api.EStr, S: "k"}, {Op: api.EStr, S: "k"}}}, {Op: api.ENow, Args: []api.Expr{one}}, deep,
	}
}

// wrongStates are not valid.
func wrongStates() [][]api.Pair {
	list := [][]api.Pair{
		pairsOf("b", 1, "a", 1), pairsOf("a", 1, "a", 1), pairsOf("a", 1, "c", 1, "b", 1), pairsOf("", 1), pairsOf("A", 1), pairsOf("a b", 1), pairsOf(long(25), 1), pairsOf("a", 1, "b", nil), pairsOf("a\n", "x"),
		{{Key: "a", Val: boolean(true)}}, {{Key: "a", Val: boolean(false)}}, {{}},
	}
	for _, v := range wrongValues() {
		list = append(list, []api.Pair{{Key: "k", Val: v}}, []api.Pair{{Key: "k", Val: integer(1)}, {Key: "l", Val: v}})
	}
	return list
}

// keysOf returns so many ascending keys.
func keysOf(number int) []string {
	var l []string
	for i := range number {
		l = append(l, fmt.Sprintf("k%03d", i))
	}
	return l
}

// wrongLists are such that no footprint has as Reads or Writes.
func wrongLists() [][]string {
	return [][]string{{"b", "a"}, {"a", "a"}, {"a", "c", "b"}, {""}, {"A"}, {"a", "b "}, {"a", "b\n"}, {long(25)}, {"k", "ü"}, keysOf(65), keysOf(1000), append(keysOf(63), "k000")}
}

// wrongFoots are not valid.
func wrongFoots() []api.Footprint {
	list := []api.Footprint{{All: true, Reads: []string{"k"}}, {All: true, Writes: []string{"k"}}, {All: true, Reads: []string{"a", "b"}, Writes: []string{"c"}}, {All: true, Reads: []string{""}}}
	for _, l := range wrongLists() {
		list = append(list, api.Footprint{Reads: l}, api.Footprint{Writes: l}, api.Footprint{Reads: []string{"k"}, Writes: l}, api.Footprint{Reads: l, Writes: keysOf(64)}, api.Footprint{All: true, Reads: l})
	}
	return list
}

// TestP15_1Invalid has expressions, variables, states and footprints that are not valid, beside others that read the state or end the evaluation.
func TestP15_1Invalid(t *testing.T) {
	good := []api.Expr{expr(t, "1"), expr(t, "n"), expr(t, `getint("k")`), expr(t, "1 / 0"), expr(t, "none"), expr(t, `has("out")`), expr(t, "now()")}
	pairs, foot := pairsOf("k", 5), api.Footprint{Reads: []string{"k"}}
	reject := func(e api.Expr, vars, pairs []api.Pair, foot api.Footprint) {
		t.Helper()
		if v, effect := Eval(e, vars, pairs, foot); v != (api.Value{}) || describe(effect) != describe(rejection()) {
			t.Fatalf("the result is %q and %s of %+v with the variables %q, the state %q and the footprint %+v", valueText(v), describe(effect), e, pairTexts(vars), pairTexts(pairs), foot)
		}
	}
	for _, e := range good {
		for _, wrong := range wrongExprs() {
			reject(wrong, variables(), pairs, foot)
			reject(api.Expr{Op: api.EAdd, Args: []api.Expr{e, wrong}}, variables(), pairs, foot)
			reject(api.Expr{Op: api.EEq, Args: []api.Expr{wrong, e}}, variables(), pairs, everything())
		}
		for _, v := range wrongValues() {
			reject(e, []api.Pair{{Key: "n", Val: v}}, pairs, foot)
			reject(e, append(variables(), api.Pair{Key: "other", Val: v}), pairs, foot)
			reject(e, append(variables(), api.Pair{Key: "n", Val: v}), pairs, foot)
			reject(e, append([]api.Pair{{Key: "", Val: v}}, variables()...), nil, everything())
		}
		for _, wrong := range wrongStates() {
			reject(e, variables(), wrong, foot)
			reject(e, nil, wrong, everything())
		}
		for _, wrong := range wrongFoots() {
			reject(e, variables(), pairs, wrong)
			reject(e, nil, nil, wrong)
		}
	}
	for _, l := range wrongStates() {
		if isState(l) {
			t.Errorf("for the test, the state %q is valid", pairTexts(l))
		}
	}
	for _, f := range wrongFoots() {
		if isFoot(f) {
			t.Errorf("for the test, the footprint %+v is valid", f)
		}
	}
}

// goodFoots are valid footprints that allow reading k, with lists at their limits.
func goodFoots() []api.Footprint {
	keys := append([]string{"k"}, keysOf(63)...)
	empty := []string{}
	return []api.Footprint{
		{Reads: []string{"k"}}, {Reads: []string{"k"}, Writes: empty}, {Reads: keys}, {Reads: keys, Writes: keys}, {Reads: []string{"-", ".", "/", "0", "9", "_", "a", "k", "z"}},
		{Reads: []string{"a", "k", "kk"}, Writes: keysOf(64)}, {Reads: []string{"k", long(24)}}, {All: true}, {All: true, Reads: empty, Writes: empty},
	}
}

// TestP15_1Reads reads keys with all values, whether their footprint allows it or not.
func TestP15_1Reads(t *testing.T) {
	zeros := map[string]api.Value{"getint": integer(0), "getstr": str(""), "has": boolean(false)}
	for word, zero := range zeros {
		read := expr(t, word+`("k")`)
		for _, foot := range goodFoots() {
			checkEval(t, read, nil, nil, foot, zero, evaluated("k"))
			checkEval(t, read, nil, pairsOf("j", 3, "kk", "x"), foot, zero, evaluated("k"))
			for _, v := range []api.Value{integer(5), integer(0), integer(math.MinInt64), str("x"), str(""), str(long(64))} {
				pairs := []api.Pair{{Key: "a", Val: integer(1)}, {Key: "k", Val: v}, {Key: "l", Val: str("y")}}
				switch {
				case word == "has":
					checkEval(t, read, nil, pairs, foot, boolean(true), evaluated("k"))
				case v.Kind == zero.Kind:
					checkEval(t, read, nil, pairs, foot, v, evaluated("k"))
				default:
					checkEval(t, read, nil, pairs, foot, api.Value{}, stopped(1003, "k"))
				}
			}
		}
		for _, foot := range []api.Footprint{{}, {Writes: []string{"k"}}, {Reads: []string{"j", "kk"}, Writes: []string{"k"}}, {Reads: keysOf(64)}} {
			for _, pairs := range [][]api.Pair{nil, pairsOf("k", 5), pairsOf("k", "x"), pairsOf("j", 1, "kk", 2)} {
				checkEval(t, read, nil, pairs, foot, api.Value{}, missed("k"))
			}
		}
		// The key is checked before the footprint.
		for _, key := range []string{"", "K", "a b", "a!", long(25), "~", " k", "k ", "a:b", "{"} {
			for _, foot := range []api.Footprint{{}, everything(), {Reads: []string{"k"}}} {
				checkEval(t, api.Expr{Op: read.Op, Args: []api.Expr{{Op: api.EStr, S: key}}}, nil, pairsOf("k", 5), foot, api.Value{}, stopped(1004))
			}
		}
		for _, key := range []string{"0", "-", long(24), "a/b.1_-"} {
			e := api.Expr{Op: read.Op, Args: []api.Expr{{Op: api.EStr, S: key}}}
			checkEval(t, e, nil, nil, everything(), zero, evaluated(key))
			checkEval(t, e, nil, nil, api.Footprint{}, api.Value{}, missed(key))
		}
	}
}

// TestP15_1ManyReads reads many keys, some of them more than once, in an order that is not that of the keys.
func TestP15_1ManyReads(t *testing.T) {
	pairs := pairsOf("a", 1, "b", 20, "c", 300, "p", "c", "q", "p")
	checkEval(t, expr(t, `getint("c") + getint("a") + getint("b") + getint("a") + getint("d")`), nil, pairs, everything(), integer(322), evaluated("a", "b", "c", "d"))
	checkEval(t, expr(t, `getint(getstr(getstr("q")))`), nil, pairs, everything(), integer(300), evaluated("c", "p", "q"))
	checkEval(t, expr(t, `getint(getstr(getstr("q"))) + getint("b")`), nil, pairs, api.Footprint{Reads: []string{"c", "p", "q"}}, api.Value{}, missed("b", "c", "p", "q"))
	checkEval(t, expr(t, `getint("c") + getint("p")`), nil, pairs, everything(), api.Value{}, stopped(1003, "c", "p"))
	checkEval(t, expr(t, `has("x") or has("b") and has("x") and not has("w")`), nil, pairs, everything(), boolean(false), evaluated("b", "w", "x"))

	// An expression with the greatest depth reads more keys than a footprint can list.
	var keys []string
	var sum func(depth int) api.Expr
	sum = func(depth int) api.Expr {
		if depth == mostDepth-1 {
			keys = append(keys, fmt.Sprintf("r%d", len(keys)*7%1024))
			return api.Expr{Op: api.EGetInt, Args: []api.Expr{{Op: api.EStr, S: keys[len(keys)-1]}}}
		}
		return api.Expr{Op: api.EAdd, Args: []api.Expr{sum(depth + 1), sum(depth + 1)}}
	}
	e := sum(1)
	slices.Sort(keys)
	keys = slices.Compact(keys)
	pairs = nil
	for _, key := range keys {
		pairs = append(pairs, api.Pair{Key: key, Val: integer(3)})
	}
	if len(keys) != 1024 {
		t.Fatalf("%d keys", len(keys))
	}
	checkEval(t, e, nil, pairs, everything(), integer(3*1024), evaluated(keys...))
	checkEval(t, e, nil, nil, everything(), integer(0), evaluated(keys...))
	checkEval(t, e, nil, pairs, api.Footprint{Reads: []string{"r0", "r14", "r7"}}, api.Value{}, missed("r21", "r0", "r14", "r7"))
}
