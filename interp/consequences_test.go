package interp

import (
	"clockwork/api"
	"clockwork/cost"
	"slices"
	"testing"
)

// changed returns a state in which the keys have the same values as in the pairs, and the others may have other ones.
func (g *generator) changed(pairs []api.Pair, keys []string) []api.Pair {
	isKept := func(p api.Pair) bool { return slices.Contains(keys, p.Key) }
	isOther := func(p api.Pair) bool { return !isKept(p) }
	// A key that is absent stays so.
	l := slices.DeleteFunc(g.state(), isKept)
	l = append(l, api.Pair{Key: "y" + some(g, "y", "z"), Val: g.value('I')})
	l = append(l, slices.DeleteFunc(slices.Clone(pairs), isOther)...)
	slices.SortFunc(l, func(a, b api.Pair) int { return map[bool]int{true: -1, false: 1}[a.Key < b.Key] })
	return l
}

// TestP15_5OtherStates executes runs on states that differ in keys that they do not read.
func TestP15_5OtherStates(t *testing.T) {
	reading := 0
	for i, r := range randomRuns(3000) {
		g := newGenerator(i)
		g.oddities = 500
		want := Run(r.p, r.args, r.pairs, r.foot)
		for range 3 {
			pairs := g.changed(r.pairs, want.Reads)
			if got := Run(r.p, r.args, pairs, r.foot); describe(got) != describe(want) {
				t.Fatalf("on the state %q, the effect is\n%s, want\n%s, of\n%s", pairTexts(pairs), describe(got), describe(want), r)
			}
		}
		if len(want.Reads) > 0 {
			reading++
		}
	}
	if reading < 1000 {
		t.Errorf("%d runs read the state", reading)
	}
}

// TestP15_5Dependence requires that runs depend on keys in Reads.
func TestP15_5Dependence(t *testing.T) {
	depending := 0
	for i, r := range randomRuns(3000) {
		want := Run(r.p, r.args, r.pairs, r.foot)
		for j, key := range want.Reads {
			others := slices.Delete(slices.Clone(want.Reads), j, j+1)
			pairs := newGenerator(i).changed(r.pairs, others)
			if got := Run(r.p, r.args, pairs, r.foot); describe(got) != describe(want) {
				depending++
			} else if !slices.Contains(got.Reads, key) {
				t.Fatalf("the effect is\n%s, want\n%s, of\n%s", describe(got), describe(want), r)
			}
		}
	}
	if depending < 500 {
		t.Errorf("%d runs depend on a key that they read", depending)
	}
}

// isSubset tells whether all keys of the list are among the others.
func isSubset(list, others []string) bool {
	return !slices.ContainsFunc(list, func(key string) bool { return !slices.Contains(others, key) })
}

// TestP15_6Footprints executes runs with footprints that allow more.
func TestP15_6Footprints(t *testing.T) {
	restarting := 0
	for i, r := range randomRuns(4000) {
		g := newGenerator(i)
		want := Run(r.p, r.args, r.pairs, r.foot)
		if !r.foot.All && (!isSubset(want.Reads, r.foot.Reads) || !isSubset(want.Puts, r.foot.Writes)) {
			t.Fatalf("the effect is\n%s, of\n%s", describe(want), r)
		}
		restarts := want.Outcome.Status == api.StRestart
		if restarts {
			restarting++
			if r.foot.All || slices.Contains(r.foot.Reads, want.Miss) && slices.Contains(r.foot.Writes, want.Miss) || slices.Contains(want.Reads, want.Miss) && slices.Contains(want.Puts, want.Miss) {
				t.Fatalf("the effect is\n%s, of\n%s", describe(want), r)
			}
		}
		foots := []api.Footprint{everything()}
		if !r.foot.All {
			foots = append(foots, api.Footprint{Reads: g.more(r.foot.Reads), Writes: r.foot.Writes}, api.Footprint{Reads: r.foot.Reads, Writes: g.more(r.foot.Writes)}, api.Footprint{Reads: want.Reads, Writes: want.Puts})
		}
		for _, foot := range foots {
			got := Run(r.p, r.args, r.pairs, foot)
			switch {
			case !restarts && describe(got) != describe(want):
				t.Fatalf("with the footprint %+v, the effect is\n%s, want\n%s, of\n%s", foot, describe(got), describe(want), r)
			case restarts && (!isSubset(want.Reads, got.Reads) || !isSubset(want.Puts, got.Puts) || got.Steps < want.Steps):
				t.Fatalf("with the footprint %+v, the effect is\n%s, and not more than\n%s, of\n%s", foot, describe(got), describe(want), r)
			}
		}
	}
	if restarting < 500 || restarting > 3000 {
		t.Errorf("%d runs restart", restarting)
	}
}

// TestP15_7Bounds compares runs with the bounds of their procedures.
func TestP15_7Bounds(t *testing.T) {
	exact := 0
	for _, r := range randomRuns(4000) {
		for _, e := range []api.Effect{Run(r.p, r.args, r.pairs, r.foot), Free(r.p, r.args, r.pairs)} {
			if e.Steps > cost.Steps(r.p) || len(e.Reads) > cost.Gets(r.p) || len(e.Puts) > cost.Puts(r.p) || len(e.Outcome.Out) > cost.Emits(r.p) {
				t.Fatalf("the effect is beyond the bounds:\n%s, of\n%s", describe(e), r)
			}
			if e.Outcome.Status == api.StCommit && e.Steps == cost.Steps(r.p) && len(e.Outcome.Out) == cost.Emits(r.p) && len(e.Puts) == cost.Puts(r.p) && len(e.Puts) > 1 {
				exact++
			}
		}
	}
	if exact < 100 {
		t.Errorf("%d runs reach the bounds", exact)
	}
}

// TestP15_7Writes compares what runs write with what they put, and requires that those that everything is allowed do not restart.
func TestP15_7Writes(t *testing.T) {
	counts := map[int]int{}
	for _, r := range randomRuns(4000) {
		free := Free(r.p, r.args, r.pairs)
		if free.Outcome.Status == api.StRestart || free.Miss != "" {
			t.Fatalf("the effect is\n%s, of Free and\n%s", describe(free), r)
		}
		for _, e := range []api.Effect{Run(r.p, r.args, r.pairs, r.foot), free} {
			var keys []string
			for _, p := range e.Writes {
				keys = append(keys, p.Key)
			}
			isAscending := func(l []string) bool { return slices.IsSorted(l) && len(slices.Compact(slices.Clone(l))) == len(l) }
			commits := e.Outcome.Status == api.StCommit
			switch {
			case !isAscending(e.Reads) || !isAscending(e.Puts):
				t.Fatalf("the keys are not ascending:\n%s, of\n%s", describe(e), r)
			case commits && (!slices.Equal(keys, e.Puts) || e.Outcome.Code != 0 || e.Miss != ""):
				t.Fatalf("the effect of a commit is\n%s, of\n%s", describe(e), r)
			case !commits && (len(keys) > 0 || len(e.Outcome.Out) > 0):
				t.Fatalf("the effect of a run that does not commit is\n%s, of\n%s", describe(e), r)
			}
			if len(e.Puts) > 0 {
				counts[e.Outcome.Status]++
			}
		}
	}
	if counts[1] < 1000 || counts[2] < 300 || counts[3] < 100 {
		t.Errorf("the numbers of runs by their status are %v", counts)
	}
}
