package determinism

import (
	"clockwork/api"
	"clockwork/types"
	"testing"
)

func TestP12_3Examples(t *testing.T) {
	checkProc(t, proc(t, "let x = 1 + random(); emit x;"), api.ErrNondeterministic)
	checkProc(t, proc(t, "let x = 1 + n; emit x;"), api.OK)
	checkProc(t, proc(t, ""), api.OK)
	checkProc(t, procOf(t, "proc add(k: str, n: int) { put k = getint(k) + n; emit getint(k); }"), api.OK)
	checkProc(t, procOf(t, "proc p() { if has(getstr(\"a\")) { abort 25; } }"), api.OK)
	checkProc(t, procOf(t, `proc p() { emit "now()"; let nows = 25; emit nows; }`), api.OK)
	checkProc(t, procOf(t, "proc p() { if has(\"a\") {} else { emit now(); } }"), api.ErrNondeterministic)
	checkProc(t, api.Proc{}, api.ErrName)
}

// TestP12_3Places has nondeterministic operators at all places, also where nothing is executed.
func TestP12_3Places(t *testing.T) {
	for _, operand := range []string{"1", "n", "getint(s)", "len(getstr(s))"} {
		checkProc(t, proc(t, inPlaces(operand, nil)), api.OK)
		for _, call := range calls() {
			for place := range places {
				checkProc(t, proc(t, inPlaces(operand, map[int]string{place: call})), api.ErrNondeterministic)
				checkProc(t, proc(t, inPlaces(operand, map[int]string{place: "len(text(2 - " + call + "))"})), api.ErrNondeterministic)
				checkProc(t, proc(t, "abort 1;"+inPlaces(operand, map[int]string{place: call})), api.ErrNondeterministic)
			}
		}
	}
}

// TestP12_3Types has errors of types.Check beside nondeterministic operators.
func TestP12_3Types(t *testing.T) {
	errors := map[string]api.Errno{"emit x;": api.ErrUnassigned, "x = now();": api.ErrUnassigned, "emit -s;": api.ErrType, "n = s ++ text(now());": api.ErrType, "delete now();": api.ErrType, "if random() {}": api.ErrType, "emit has(node());": api.ErrType, "emit now() ++ s;": api.ErrType, "emit x + now();": api.ErrUnassigned, "let n = now();": api.ErrDuplicate, "for j = 0 to now() max 2 { j = random(); }": api.ErrName, "for j = now() to s max 2 {}": api.ErrType}
	for s, want := range errors {
		checkProc(t, proc(t, s), want)
		for _, call := range calls() {
			checkProc(t, proc(t, inPlaces(call, nil)+s), want)
			checkProc(t, proc(t, "emit "+call+";"+s), want)
			checkProc(t, proc(t, s+"emit "+call+";"), want)
			checkProc(t, proc(t, "if has(s) { emit "+call+"; } else {"+s+"}"), want)
		}
	}
	checkProc(t, procOf(t, "proc p(b: bool) { emit now(); }"), api.ErrType)
	for name, change := range invalidChanges() {
		for _, body := range []string{"", "emit 1;", "emit now();", inPlaces("now()", nil)} {
			p := proc(t, body)
			change(&p)
			want := types.Check(p)
			if want == api.OK {
				t.Fatalf("the change of %s is none", name)
			}
			checkProc(t, p, want)
		}
	}
}

// TestP12_3Random compares random procedures with the definition.
func TestP12_3Random(t *testing.T) {
	counts := map[api.Errno]int{}
	for _, p := range randomProcs(20000) {
		want := definedCheck(p)
		checkProc(t, p, want)
		counts[want]++
	}
	for _, e := range []api.Errno{api.OK, api.ErrNondeterministic, api.ErrType, api.ErrUnassigned, api.ErrArg} {
		if counts[e] < 300 {
			t.Errorf("%d procedures have the error %d", counts[e], e)
		}
	}
}
