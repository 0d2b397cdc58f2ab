package interp

import (
	"clockwork/api"
	"testing"
)

// full returns an effect in which each field has something.
func full() api.Effect {
	return api.Effect{
		Outcome: api.Outcome{Status: 1, Code: 2, Out: []api.Value{integer(3), str("x"), boolean(true)}},
		Reads:   []string{"a", "b"}, Puts: []string{"c", "d"}, Writes: []api.Pair{{Key: "e", Val: integer(4)}, {Key: "f", Val: str("y")}, {Key: "g"}},
		Miss: "m", Steps: 5,
	}
}

// changes change one thing of the effect that full returns.
func changes() []func(e *api.Effect) {
	list := []func(e *api.Effect){
		func(e *api.Effect) { e.Outcome.Status = 3 }, func(e *api.Effect) { e.Outcome.Status = 0 }, func(e *api.Effect) { e.Outcome.Code = 0 }, func(e *api.Effect) { e.Outcome.Code = -2 },
		func(e *api.Effect) { e.Steps = 0 }, func(e *api.Effect) { e.Steps++ }, func(e *api.Effect) { e.Miss = "" }, func(e *api.Effect) { e.Miss = "n" }, func(e *api.Effect) { e.Miss = "m " },
		func(e *api.Effect) { e.Outcome.Status, e.Outcome.Code = 2, 1 }, func(e *api.Effect) { e.Outcome.Code, e.Steps = 5, 2 }, func(e *api.Effect) { e.Reads, e.Puts = e.Puts, e.Reads },

		func(e *api.Effect) { e.Outcome.Out = nil }, func(e *api.Effect) { e.Outcome.Out = e.Outcome.Out[:2] }, func(e *api.Effect) { e.Outcome.Out = append(e.Outcome.Out, api.Value{}) },
		func(e *api.Effect) { e.Outcome.Out[0].N = 0 }, func(e *api.Effect) { e.Outcome.Out[0].Kind = 2 }, func(e *api.Effect) { e.Outcome.Out[0].S = "x" }, func(e *api.Effect) { e.Outcome.Out[1].S = "X" },
		func(e *api.Effect) { e.Outcome.Out[1].N = 1 }, func(e *api.Effect) { e.Outcome.Out[2].N = 0 }, func(e *api.Effect) { e.Outcome.Out[2].Kind = 1 },
		func(e *api.Effect) {
			e.Outcome.Out[0], e.Outcome.Out[1] = e.Outcome.Out[1], e.Outcome.Out[0]
		},

		func(e *api.Effect) { e.Writes = nil }, func(e *api.Effect) { e.Writes = e.Writes[:2] }, func(e *api.Effect) { e.Writes = e.Writes[1:] }, func(e *api.Effect) { e.Writes = append(e.Writes, api.Pair{}) },
		func(e *api.Effect) { e.Writes[0].Key = "E" }, func(e *api.Effect) { e.Writes[0].Val.N = 5 }, func(e *api.Effect) { e.Writes[1].Val.S = "" }, func(e *api.Effect) { e.Writes[2].Val.Kind = 1 },
		func(e *api.Effect) { e.Writes[0], e.Writes[1] = e.Writes[1], e.Writes[0] }, func(e *api.Effect) { e.Writes[0].Val, e.Writes[1].Val = e.Writes[1].Val, e.Writes[0].Val },
	}
	for _, field := range []func(e *api.Effect) *[]string{func(e *api.Effect) *[]string { return &e.Reads }, func(e *api.Effect) *[]string { return &e.Puts }} {
		for _, l := range [][]string{nil, {}, {"a"}, {"c"}, {"b"}, {"d"}, {"b", "a"}, {"d", "c"}, {"a", "d"}, {"c", "b"}, {"a", "b", ""}, {"c", "d", "e"}, {"ab"}, {"A", "b"}, {"", ""}} {
			list = append(list, func(e *api.Effect) { *field(e) = l })
		}
	}
	return list
}

// TestP15_4Same changes one thing of an effect.
func TestP15_4Same(t *testing.T) {
	if !Same(full(), full()) || !Same(api.Effect{}, api.Effect{}) || Same(full(), api.Effect{}) || Same(api.Effect{}, full()) {
		t.Error("whole effects are compared in a wrong way")
	}
	for i, change := range changes() {
		a := full()
		change(&a)
		b := full()
		change(&b)
		if Same(a, full()) || Same(full(), a) {
			t.Errorf("the effect %+v is the same in spite of the change %d", a, i)
		}
		if !Same(a, b) || !Same(a, a) {
			t.Errorf("the effect %+v is not the same as itself", a)
		}
		for j, other := range changes() {
			c := full()
			other(&c)
			if want := describe(a) == describe(c); Same(a, c) != want {
				t.Errorf("Same is not %t for the changes %d and %d", want, i, j)
			}
		}
	}
}

// TestP15_4Empty compares nil and empty lists, and parts of longer memory.
func TestP15_4Empty(t *testing.T) {
	empty := api.Effect{Outcome: api.Outcome{Out: []api.Value{}}, Reads: []string{}, Puts: []string{}, Writes: []api.Pair{}}
	if !Same(empty, api.Effect{}) || !Same(api.Effect{}, empty) || !Same(empty, empty) {
		t.Error("nil and empty lists are not equal")
	}
	a, b := full(), full()
	for _, e := range []*api.Effect{&a, &b} {
		e.Outcome.Out, e.Reads, e.Puts, e.Writes = e.Outcome.Out[:1], e.Reads[:1], e.Puts[:1], e.Writes[:1]
	}
	b.Outcome.Out[:2][1], b.Reads[:2][1], b.Puts[:2][1], b.Writes[:2][1].Key = integer(9), "other", "other", "other"
	if !Same(a, b) {
		t.Error("what is behind the lists is compared, too")
	}
	if a.Reads = a.Reads[:2]; Same(a, b) {
		t.Error("lists of different lengths are the same")
	}
}

// TestP15_4Runs compares the effects of runs.
func TestP15_4Runs(t *testing.T) {
	var effects []api.Effect
	for _, r := range randomRuns(300) {
		effects = append(effects, Run(r.p, r.args, r.pairs, r.foot))
	}
	equal := 0
	for _, a := range effects {
		for _, b := range effects {
			want := describe(a) == describe(b)
			if Same(a, b) != want {
				t.Fatalf("Same is not %t for\n%s and\n%s", want, describe(a), describe(b))
			}
			if want {
				equal++
			}
		}
	}
	if equal <= len(effects) {
		t.Errorf("%d effects are equal", equal)
	}
}
