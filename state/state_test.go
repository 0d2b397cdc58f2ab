package state

import (
	"clockwork/api"
	"clockwork/value"
	"clockwork/wire"
	"fmt"
	"maps"
	"math"
	"slices"
	"strings"
	"testing"
	"unsafe"
)

// The tests write the bytes out, where the packages compute with them.
const (
	keyBytes   = "abcdefghijklmnopqrstuvwxyz0123456789/._-"
	plainBytes = " !\"#$%&'()*+,-./0123456789:;<=>?@ABCDEFGHIJKLMNOPQRSTUVWXYZ[\\]^_`abcdefghijklmnopqrstuvwxyz{|}~"
	longestKey = 24
	longestStr = 64
)

func intOf(n int64) api.Value {
	return api.Value{Kind: 1, N: n}
}

func strOf(s string) api.Value {
	return api.Value{Kind: 2, S: s}
}

func pair(key string, v api.Value) api.Pair {
	return api.Pair{Key: key, Val: v}
}

func num(key string, n int64) api.Pair {
	return pair(key, intOf(n))
}

func str(key, s string) api.Pair {
	return pair(key, strOf(s))
}

// del is a write that deletes the key.
func del(key string) api.Pair {
	return api.Pair{Key: key}
}

func list(pairs ...api.Pair) []api.Pair {
	return pairs
}

// isKey is the definition of a key.
func isKey(k string) bool {
	return k != "" && len(k) <= longestKey && strings.Trim(k, keyBytes) == ""
}

// isValue is the definition of a valid value.
func isValue(v api.Value) bool {
	return v == api.Value{} || v == intOf(v.N) || v == strOf(v.S) && len(v.S) <= longestStr && strings.Trim(v.S, plainBytes) == ""
}

// areValidWrites is the definition of valid writes.
func areValidWrites(l []api.Pair) bool {
	var ks []string
	for _, p := range l {
		if !isKey(p.Key) || !isValue(p.Val) {
			return false
		}
		ks = append(ks, p.Key)
	}
	return slices.IsSorted(ks) && len(slices.Compact(ks)) == len(l)
}

// isState is the definition of a valid state.
func isState(l []api.Pair) bool {
	for _, p := range l {
		if p.Val.Kind == 0 {
			return false
		}
	}
	return areValidWrites(l)
}

// mapOf returns a list without equal keys as a map.
func mapOf(l []api.Pair) map[string]api.Value {
	m := map[string]api.Value{}
	for _, p := range l {
		m[p.Key] = p.Val
	}
	return m
}

// listOf returns a map as a list with ascending keys.
func listOf(m map[string]api.Value) []api.Pair {
	var l []api.Pair
	for _, k := range slices.Sorted(maps.Keys(m)) {
		l = append(l, pair(k, m[k]))
	}
	return l
}

// combinations returns the lists that have, for each key in order, no pair or one with any of the values.
func combinations(ks []string, vals []api.Value) [][]api.Pair {
	lists := [][]api.Pair{nil}
	for _, k := range ks {
		var longer [][]api.Pair
		for _, l := range lists {
			longer = append(longer, l)
			for _, v := range vals {
				longer = append(longer, append(slices.Clone(l), pair(k, v)))
			}
		}
		lists = longer
	}
	return lists
}

// states are all states with a few keys and values.
func states() [][]api.Pair {
	return combinations([]string{"a", "b", "ba", "c"}, []api.Value{intOf(0), strOf("")})
}

// writes are all writes to the keys of states.
func writes() [][]api.Pair {
	return combinations([]string{"a", "b", "ba", "c"}, []api.Value{{}, intOf(0), strOf("")})
}

// richStates are states with keys and values of every form and size.
func richStates() [][]api.Pair {
	long := strings.Repeat("m", longestKey)
	var each, big []api.Pair
	for i := range len(keyBytes) {
		each = append(each, num(keyBytes[i:i+1], int64(i)))
	}
	slices.SortFunc(each, func(x, y api.Pair) int { return strings.Compare(x.Key, y.Key) })
	for i := range 1000 {
		big = append(big, num(fmt.Sprintf("k%03d", i), int64(i*i)), str(fmt.Sprintf("k%03d/x", i), strings.Repeat("x", i%65)))
	}
	return [][]api.Pair{
		nil, {}, list(num("a", 0)), list(str("z", "")), list(num(long, math.MinInt64)), list(str(long, plainBytes[:64])),
		list(num("-", math.MaxInt64), str(".", plainBytes[31:]), num("/", -1), num("0", 1), str("9", `"\`), num("_", 0), str("a", "nil"), num("z", 300)),
		list(num("a", 1), num("a-", 2), num("a/b.1_-", 3), num("aa", 4), str(long[1:], "x"), str(long, "y"), num(long[1:]+"n", 5), num("n", 6)),
		each, big, big[:127], big[:128], big[1:],
	}
}

// wrongValues are not valid.
func wrongValues() []api.Value {
	return []api.Value{
		{Kind: 0, N: 1}, {Kind: 0, S: "a"}, {Kind: 0, N: math.MinInt64, S: "\x00"}, {Kind: 1, S: "a"}, {Kind: 1, N: 7, S: "\xff"}, {Kind: 2, N: 1}, {Kind: 2, N: -1, S: "a"},
		{Kind: 2, S: "\x1f"}, {Kind: 2, S: "a\x7f"}, {Kind: 2, S: "é"}, {Kind: 2, S: strings.Repeat("x", 65)}, {Kind: 2, S: strings.Repeat("x", 1000)},
		{Kind: 3}, {Kind: 3, N: 1}, {Kind: 4, S: "a"}, {Kind: -1}, {Kind: math.MinInt}, {Kind: math.MaxInt, N: 1}, {Kind: 1 << 32},
	}
}

// wrongEndings make an ascending key a wrong one that is still greater than the key before it and less than the key behind it.
func wrongEndings() []string {
	return []string{" ", "A", "\x00", "~", "{", "`", ":", "\x7f", "\x80", "\xff", "é", "\n", strings.Repeat("m", longestKey), strings.Repeat("m", 100)}
}

// wrongLists are neither states nor writes. In each there is one error: a wrong key, a wrong value, or two keys that are not ascending.
func wrongLists() [][]api.Pair {
	good := list(num("b", 1), str("c", "x"), num("d", -5), str("e", ""))
	var lists [][]api.Pair
	with := func(i int, p api.Pair) {
		l := slices.Clone(good)
		l[i] = p
		lists = append(lists, l, l[i:i+1])
	}
	for i, p := range good {
		for _, end := range wrongEndings() {
			with(i, pair(p.Key+end, p.Val))
		}
		for _, v := range wrongValues() {
			with(i, pair(p.Key, v))
		}
	}
	for _, k := range []string{"", "A", " ", "\x00", "Z/z", "\x00b", ":"} {
		with(0, num(k, 1))
	}
	for _, k := range []string{"~", "{", "\x7f", "\xff", "é", strings.Repeat("z", longestKey+1)} {
		with(3, num(k, 1))
	}
	for i, p := range good {
		lists = append(lists, slices.Insert(slices.Clone(good), i, p), slices.Insert(slices.Clone(good), i, pair(p.Key, strOf("other"))), list(p, p))
	}
	for i := range 3 {
		l := slices.Clone(good)
		l[i], l[i+1] = l[i+1], l[i]
		lists = append(lists, l, l[i:i+2])
	}
	back := slices.Clone(good)
	slices.Reverse(back)
	return append(lists, back, append(slices.Clone(good), good...), append(slices.Clone(good[1:]), good[0]), append(slices.Clone(good[3:]), good[:3]...), list(num("aa", 1), num("a", 1)), list(num("a-", 1), num("a", 1)), list(num("10", 1), num("1", 1)))
}

// deletions are valid writes but no states.
func deletions() [][]api.Pair {
	return [][]api.Pair{list(del("a")), list(del("a"), num("b", 1)), list(num("a", 1), del("b")), list(num("a", 1), del("b"), str("c", "")), list(del("a"), del("b"))}
}

// edge is a pair that stands before and behind the arguments in their memory. It would be valid between others.
func edge() api.Pair {
	return str("bb", "edge")
}

// roomy returns l as a part of longer memory, of which nothing may be changed, and nothing outside of l be used.
func roomy(l []api.Pair) []api.Pair {
	whole := slices.Concat(list(edge()), l, list(edge(), edge()))
	return whole[1 : 1+len(l)]
}

// checkUnchanged requires that an argument made by roomy, and the memory behind it, are what they were.
func checkUnchanged(t *testing.T, arg, want []api.Pair) {
	t.Helper()
	whole := arg[:len(arg)+2]
	if !slices.Equal(whole, append(slices.Clone(want), edge(), edge())) {
		t.Fatalf("the argument %v was changed to %v", want, whole)
	}
}

// change is Apply, Union or Diff.
type change struct {
	name string
	f    func(a, b []api.Pair) ([]api.Pair, api.Errno)
}

func changes() []change {
	return []change{{"Apply", Apply}, {"Union", Union}, {"Diff", Diff}}
}

// check requires a result, and that the arguments are not changed. With an error no list is wanted.
func (c change) check(t *testing.T, a, b, want []api.Pair, e api.Errno) {
	t.Helper()
	x, y := roomy(a), roomy(b)
	if got, gotE := c.f(x, y); !slices.Equal(got, want) || gotE != e {
		t.Fatalf("%s(%v, %v) = %v, %d, want %v, %d", c.name, a, b, got, gotE, want, e)
	}
	checkUnchanged(t, x, a)
	checkUnchanged(t, y, b)
}

func checkApply(t *testing.T, l, writes, want []api.Pair) {
	t.Helper()
	changes()[0].check(t, l, writes, want, api.OK)
}

func checkUnion(t *testing.T, a, b, want []api.Pair, e api.Errno) {
	t.Helper()
	changes()[1].check(t, a, b, want, e)
	changes()[1].check(t, b, a, want, e)
}

func checkDiff(t *testing.T, a, b, want []api.Pair) {
	t.Helper()
	changes()[2].check(t, a, b, want, api.OK)
}

func checkValid(t *testing.T, l []api.Pair, want bool) {
	t.Helper()
	arg := roomy(l)
	if got := Valid(arg); got != want {
		t.Fatalf("Valid(%v) = %t", l, got)
	}
	checkUnchanged(t, arg, l)
}

func TestP6_1Valid(t *testing.T) {
	long := strings.Repeat("k", longestKey)
	for _, l := range append(richStates(), states()...) {
		checkValid(t, l, true)
	}
	for _, l := range append(wrongLists(), deletions()...) {
		checkValid(t, l, false)
	}
	for _, c := range []struct {
		l    []api.Pair
		want bool
	}{
		{nil, true}, {list(), true}, {list(num("a", 1)), true}, {list(str("a", "")), true}, {list(del("a")), false}, {list(num("", 1)), false},
		{list(num(long, 1)), true}, {list(num(long+"k", 1)), false}, {list(num(long[1:], 1), num(long, 1)), true}, {list(num(long, 1), num(long+"k", 1)), false},
		{list(str("a", strings.Repeat("~", 64))), true}, {list(str("a", strings.Repeat("~", 65))), false},
		{list(num("a", 1), num("a", 1)), false}, {list(num("a", 1), str("a", "")), false}, {list(num("b", 1), num("a", 2)), false}, {list(num("a", 2), num("b", 1)), true},
		{list(num("a", 1), num("b", 1), num("b", 2), num("c", 1)), false}, {list(num("a", 1), num("c", 1), num("b", 1), num("d", 1)), false},
		{list(num("a", 1), num("b", 1), num("a", 1)), false}, {list(num("a", 1), num("b", 1), num("a/", 1)), false}, {list(num("9", 1), num("10", 1)), false}, {list(num("10", 1), num("9", 1)), true},
	} {
		checkValid(t, c.l, c.want)
	}
}

// eachList calls f for all lists of up to most of the pairs.
func eachList(pairs []api.Pair, most int, f func(l []api.Pair)) {
	f(nil)
	if most == 0 {
		return
	}
	for _, p := range pairs {
		eachList(pairs, most-1, func(l []api.Pair) { f(append(slices.Clone(l), p)) })
	}
}

// mixedPairs are pairs of every kind.
func mixedPairs() []api.Pair {
	return list(num("a", 1), num("b", 1), str("b", "x"), str("c", ""), num("aa", 0), del("b"), num("B", 1), num("", 1), str("d", "\n"), pair("c", api.Value{Kind: 3, N: 1}), pair("a", api.Value{N: 1}))
}

func TestP6_1ValidAllLists(t *testing.T) {
	count := 0
	eachList(mixedPairs(), 4, func(l []api.Pair) {
		if want := isState(l); Valid(l) != want {
			t.Fatalf("Valid(%v) = %t", l, !want)
		} else if want {
			count++
		}
	})
	// There are a, aa, b with two values, and c: each may be absent.
	if count != 2*2*3*2 {
		t.Errorf("%d lists are valid", count)
	}
}

func checkGet(t *testing.T, l []api.Pair, key string, want api.Value) {
	t.Helper()
	arg := roomy(l)
	if got := Get(arg, key); got != want {
		t.Fatalf("Get(%v, %q) = %#v, want %#v", l, key, got, want)
	}
	checkUnchanged(t, arg, l)
}

func TestP6_1Get(t *testing.T) {
	odd := list(num("c", 1), num("a", 2), str("c", "later"), num("", 3), str("A", "\xff"), del("d"), num("d", 4), pair("e", api.Value{Kind: 3, N: 1, S: "s"}), num("a", 5))
	for _, c := range []struct {
		l    []api.Pair
		key  string
		want api.Value
	}{
		{nil, "a", api.Value{}}, {list(), "", api.Value{}}, {list(num("a", 1)), "a", intOf(1)}, {list(num("a", 1)), "b", api.Value{}}, {list(num("a", 1)), "", api.Value{}},
		{list(num("a", 1)), "aa", api.Value{}}, {list(num("aa", 1)), "a", api.Value{}}, {list(num("a", 1)), "A", api.Value{}}, {list(str("a", "")), "a", strOf("")},
		{list(num("a", 1), str("b", "x"), num("c", 3)), "a", intOf(1)}, {list(num("a", 1), str("b", "x"), num("c", 3)), "b", strOf("x")}, {list(num("a", 1), str("b", "x"), num("c", 3)), "c", intOf(3)},
		{list(num("a", 1), num("c", 3)), "b", api.Value{}}, {list(num("a", 1), num("c", 3)), "d", api.Value{}}, {list(num("b", 1), num("c", 3)), "a", api.Value{}}, {list(num("a", 1)), edge().Key, api.Value{}},
		{list(num("a", 1), num("a", 2)), "a", intOf(1)}, {list(num("b", 1), num("a", 2), num("a", 3), num("a", 4)), "a", intOf(2)}, {list(del("a"), num("a", 2)), "a", api.Value{}},
		{odd, "c", intOf(1)}, {odd, "a", intOf(2)}, {odd, "", intOf(3)}, {odd, "A", strOf("\xff")}, {odd, "d", api.Value{}}, {odd, "e", api.Value{Kind: 3, N: 1, S: "s"}}, {odd, "b", api.Value{}},
	} {
		checkGet(t, c.l, c.key, c.want)
	}
	for _, l := range append(richStates()[:11:11], states()...) {
		m := mapOf(l)
		for _, k := range []string{"", "a", "b", "ba", "bb", "c", "k000", "k063", "k100/x", "~", "-", "z", "n"} {
			checkGet(t, l, k, m[k])
		}
		for k, v := range m {
			checkGet(t, l, k, v)
		}
	}
}

func TestP6_1GetOfAnyList(t *testing.T) {
	for _, l := range wrongLists() {
		for i, p := range l {
			first := slices.IndexFunc(l, func(q api.Pair) bool { return q.Key == p.Key })
			checkGet(t, l, p.Key, l[first].Val)
			if first == i {
				checkGet(t, l[i+1:], p.Key, firstValue(l[i+1:], p.Key))
			}
		}
	}
}

// firstValue is the definition of the result of Get.
func firstValue(l []api.Pair, key string) api.Value {
	back := slices.Clone(l)
	slices.Reverse(back)
	return mapOf(back)[key]
}

func TestP6_1Same(t *testing.T) {
	a := list(num("a", 1), str("b", "x"))
	for _, c := range []struct {
		a, b []api.Pair
		want bool
	}{
		{nil, nil, true}, {nil, list(), true}, {list(), list(), true}, {nil, list(api.Pair{}), false}, {list(), a, false}, {a, a, true}, {a, slices.Clone(a), true},
		{list(num("a", 1)), list(num("a", 1)), true}, {list(num("a", 1)), list(num("b", 1)), false}, {list(num("a", 1)), list(num("A", 1)), false}, {list(num("a", 1)), list(num("a", 2)), false},
		{list(num("a", 0)), list(str("a", "")), false}, {list(num("a", 0)), list(del("a")), false}, {list(str("a", "x")), list(str("a", "y")), false}, {list(str("a", "x")), list(str("a", "xx")), false},
		{a, a[:1], false}, {a, a[1:], false}, {a, list(a[1], a[0]), false}, {a, list(a[0], num("b", 1)), false}, {a, list(num("a", 2), a[1]), false}, {a, list(a[0], a[0]), false},
		{a, append(slices.Clone(a), num("c", 1)), false}, {list(a[0], a[0]), a[:1], false}, {list(a[1], a[0], a[1]), list(a[1], a[0], a[1]), true},
		{list(num("\xff", 1), num("", 1)), list(num("\xff", 1), num("", 1)), true}, {list(api.Pair{}), list(api.Pair{}), true},
		{list(pair("a", api.Value{Kind: 3, N: 1, S: "x"})), list(pair("a", api.Value{Kind: 3, N: 1, S: "x"})), true},
		{list(pair("a", api.Value{Kind: 3, N: 1, S: "x"})), list(pair("a", api.Value{Kind: 3, N: 1, S: "y"})), false},
		{list(pair("a", api.Value{Kind: 3, N: 1, S: "x"})), list(pair("a", api.Value{Kind: 3, N: 2, S: "x"})), false},
		{list(pair("a", api.Value{Kind: 3, N: 1, S: "x"})), list(pair("a", api.Value{Kind: 4, N: 1, S: "x"})), false},
	} {
		checkSame(t, c.a, c.b, c.want)
		checkSame(t, c.b, c.a, c.want)
	}
	all := append(states(), wrongLists()...)
	for i, a := range all {
		for _, b := range all[max(0, i-20):min(len(all), i+20)] {
			checkSame(t, a, b, fmt.Sprintf("%#v", a) == fmt.Sprintf("%#v", b))
		}
	}
}

func checkSame(t *testing.T, a, b []api.Pair, want bool) {
	t.Helper()
	x, y := roomy(a), roomy(b)
	if got := Same(x, y); got != want {
		t.Fatalf("Same(%v, %v) = %t", a, b, got)
	}
	checkUnchanged(t, x, a)
	checkUnchanged(t, y, b)
}

// applied is the definition of the result of Apply.
func applied(l, writes []api.Pair) []api.Pair {
	m := mapOf(l)
	for _, w := range writes {
		m[w.Key] = w.Val
		if w.Val.Kind == 0 {
			delete(m, w.Key)
		}
	}
	return listOf(m)
}

func TestP6_2Apply(t *testing.T) {
	l := list(num("b", 2), num("c", 3), str("d", "x"))
	for _, c := range []struct{ l, writes, want []api.Pair }{
		{list(num("b", 2), num("c", 3)), list(num("a", 1), del("b")), list(num("a", 1), num("c", 3))},
		{nil, nil, nil}, {nil, list(num("a", 1)), list(num("a", 1))}, {nil, list(del("a")), nil}, {nil, list(del("a"), str("b", ""), del("c")), list(str("b", ""))},
		{list(num("a", 1)), nil, list(num("a", 1))}, {list(num("a", 1)), list(del("a")), nil}, {list(num("a", 1)), list(del("b")), list(num("a", 1))}, {list(num("a", 1)), list(str("a", "")), list(str("a", ""))},
		{list(num("a", 1)), list(num("a", 1)), list(num("a", 1))}, {list(num("a", 1)), list(num("aa", 1)), list(num("a", 1), num("aa", 1))}, {list(num("aa", 1)), list(num("a", 1)), list(num("a", 1), num("aa", 1))},
		{l, list(num("a", 1)), list(num("a", 1), l[0], l[1], l[2])}, {l, list(num("ca", 1)), list(l[0], l[1], num("ca", 1), l[2])}, {l, list(num("e", 1)), list(l[0], l[1], l[2], num("e", 1))},
		{l, list(num("a", 1), num("ba", 2), num("ca", 3), num("e", 4)), list(num("a", 1), l[0], num("ba", 2), l[1], num("ca", 3), l[2], num("e", 4))},
		{l, list(num("b", 9)), list(num("b", 9), l[1], l[2])}, {l, list(num("c", 9)), list(l[0], num("c", 9), l[2])}, {l, list(num("d", 9)), list(l[0], l[1], num("d", 9))},
		{l, list(del("b")), l[1:]}, {l, list(del("c")), list(l[0], l[2])}, {l, list(del("d")), l[:2]}, {l, list(del("a"), del("ba"), del("ca"), del("e")), l}, {l, list(del("b"), del("c"), del("d")), nil},
		{l, list(del("b"), num("c", 4), del("d"), num("e", 5)), list(num("c", 4), num("e", 5))}, {l, l, l}, {l, list(num("x", 1), num("y", 2), num("z", 3)), append(slices.Clone(l), num("x", 1), num("y", 2), num("z", 3))},
	} {
		checkApply(t, c.l, c.writes, c.want)
	}
}

func TestP6_2ApplyAll(t *testing.T) {
	for _, l := range states() {
		for _, w := range writes() {
			checkApply(t, l, w, applied(l, w))
		}
	}
	for _, l := range richStates() {
		for _, w := range append(richStates(), writes()[:60]...) {
			checkApply(t, l, w, applied(l, w))
		}
		var none []api.Pair
		for _, p := range l {
			none = append(none, del(p.Key))
		}
		checkApply(t, l, none, nil)
		checkApply(t, nil, none, nil)
	}
}

// checkErrors requires that c returns ErrArg for each of the lists as its argument number i, whatever the other one is, valid or not.
func (c change) checkErrors(t *testing.T, lists [][]api.Pair, i int) {
	t.Helper()
	others := [][]api.Pair{nil, list(num("a", 1)), list(num("b", 1), str("c", "x")), list(str("z", "")), list(num("b", 1), num("a", 1))}
	for _, l := range lists {
		for _, other := range append(others, l) {
			args := [2][]api.Pair{other, other}
			args[i] = l
			c.check(t, args[0], args[1], nil, api.ErrArg)
		}
	}
}

func TestP6_2ApplyErrors(t *testing.T) {
	apply := changes()[0]
	apply.checkErrors(t, append(wrongLists(), deletions()...), 0)
	apply.checkErrors(t, wrongLists(), 1)
	for _, w := range deletions() {
		checkApply(t, list(num("a", 1)), w, applied(list(num("a", 1)), w))
	}
}

func TestP6_2ApplyAllLists(t *testing.T) {
	var lists [][]api.Pair
	eachList(mixedPairs(), 2, func(l []api.Pair) { lists = append(lists, l) })
	for _, l := range lists {
		for _, w := range lists {
			if isState(l) && areValidWrites(w) {
				checkApply(t, l, w, applied(l, w))
			} else {
				changes()[0].check(t, l, w, nil, api.ErrArg)
			}
		}
	}
}

func checkSlice(t *testing.T, l []api.Pair, from, to string, want []api.Pair) {
	t.Helper()
	arg := roomy(l)
	if got := Slice(arg, api.Range{From: from, To: to}); !slices.Equal(got, want) {
		t.Fatalf("Slice(%v, %q to %q) = %v, want %v", l, from, to, got, want)
	}
	checkUnchanged(t, arg, l)
}

func TestP6_3Slice(t *testing.T) {
	l := list(num("a", 1), str("b", "x"), num("ba", 2), str("c", ""))
	odd := list(num("c", 1), num("a", 2), del("c"), str("A", "\xff"), num("", 3), num("\xff", 4), num("a", 2), pair("b ", api.Value{Kind: 3, S: "s"}), num(strings.Repeat("b", 25), 5))
	for _, c := range []struct {
		l        []api.Pair
		from, to string
		want     []api.Pair
	}{
		{nil, "", "", nil}, {list(), "a", "b", nil}, {l, "", "", l}, {l, "a", "", l}, {l, "b", "", l[1:]}, {l, "c", "", l[3:]}, {l, "d", "", nil}, {l, "a!", "", l[1:]},
		{l, "", "a", nil}, {l, "", "b", l[:1]}, {l, "", "b!", l[:2]}, {l, "", "c", l[:3]}, {l, "", "d", l}, {l, "", "!", nil}, {l, "!", "~", l}, {l, "~", "", nil},
		{l, "a", "b", l[:1]}, {l, "b", "c", l[1:3]}, {l, "b", "ba", l[1:2]}, {l, "ba", "bb", l[2:3]}, {l, "bb", "c", nil}, {l, "a", "c!", l}, {l, "bb", "bc", nil},
		{l, "b", "b", nil}, {l, "c", "a", nil}, {l, "z", "a", nil}, {l, "", " ", nil}, {l, " ", "", nil}, {l, "a b", "", nil}, {l, "", "c\x7f", nil}, {l, "", "\xff", nil}, {l, "\x00", "~", nil},
		{l, strings.Repeat("a", 24), "", l[1:]}, {l, strings.Repeat("a", 25), "", nil}, {l, "", strings.Repeat("b", 24), l[:3]}, {l, "", strings.Repeat("b", 25), nil},
		{odd, "", "", odd}, {odd, "a", "", list(odd[0], odd[1], odd[2], odd[5], odd[6], odd[7], odd[8])}, {odd, "a", "b", list(odd[1], odd[6])}, {odd, "", "a", list(odd[3], odd[4])},
		{odd, "c", "d", list(odd[0], odd[2])}, {odd, "~", "", list(odd[5])}, {odd, "b", "c", list(odd[7], odd[8])}, {odd, "A", "B", list(odd[3])}, {odd, "c", "b", nil}, {odd, "", " ", nil},
	} {
		checkSlice(t, c.l, c.from, c.to, c.want)
	}
}

// isBound is the definition of a bound of a range.
func isBound(s string) bool {
	return len(s) <= longestKey && strings.Trim(s, plainBytes[1:]) == ""
}

func TestP6_3SliceAll(t *testing.T) {
	bounds := []string{"", "!", "A", "a", "a!", "b", "b!", "ba", "c", "d", "k050", "~", " ", "c\x7f", "\xff", strings.Repeat("b", 24), strings.Repeat("b", 25)}
	lists := append(append(richStates(), wrongLists()...), append(deletions(), writes()[200:]...)...)
	for _, from := range bounds {
		for _, to := range bounds {
			valid := isBound(from) && isBound(to) && (to == "" || from < to)
			for _, l := range lists {
				want := slices.DeleteFunc(slices.Clone(l), func(p api.Pair) bool { return !valid || p.Key < from || to != "" && p.Key >= to })
				checkSlice(t, l, from, to, want)
			}
		}
	}
}

func TestP6_4Union(t *testing.T) {
	l := list(num("b", 2), num("d", 4), str("f", "x"))
	for _, c := range []struct {
		a, b, want []api.Pair
		e          api.Errno
	}{
		{nil, nil, nil, api.OK}, {nil, list(), nil, api.OK}, {nil, l, l, api.OK}, {list(num("a", 1)), nil, list(num("a", 1)), api.OK}, {list(num("a", 1)), list(str("b", "")), list(num("a", 1), str("b", "")), api.OK},
		{l, list(num("a", 1)), list(num("a", 1), l[0], l[1], l[2]), api.OK}, {l, list(num("c", 1)), list(l[0], num("c", 1), l[1], l[2]), api.OK}, {l, list(num("e", 1)), list(l[0], l[1], num("e", 1), l[2]), api.OK},
		{l, list(num("g", 1)), list(l[0], l[1], l[2], num("g", 1)), api.OK}, {l, list(num("a", 1), num("aa", 1)), list(num("a", 1), num("aa", 1), l[0], l[1], l[2]), api.OK},
		{l, list(num("a", 1), num("c", 3), num("e", 5), num("g", 7)), list(num("a", 1), l[0], num("c", 3), l[1], num("e", 5), l[2], num("g", 7)), api.OK},
		{l, list(num("b", 2)), nil, api.ErrDuplicate}, {l, list(num("b", 9)), nil, api.ErrDuplicate}, {l, list(str("d", "")), nil, api.ErrDuplicate}, {l, list(str("f", "x")), nil, api.ErrDuplicate},
		{l, list(num("a", 1), num("b", 1)), nil, api.ErrDuplicate}, {l, list(num("c", 1), num("d", 1), num("e", 1)), nil, api.ErrDuplicate}, {l, list(num("a", 1), num("f", 1), num("z", 1)), nil, api.ErrDuplicate},
		{l, list(num("b", 1), num("c", 1), num("z", 1)), nil, api.ErrDuplicate}, {l, l, nil, api.ErrDuplicate}, {l, l[2:], nil, api.ErrDuplicate}, {list(num("a", 1)), list(num("a", 1)), nil, api.ErrDuplicate},
	} {
		checkUnion(t, c.a, c.b, c.want, c.e)
	}
}

// checkUnionDefinition requires ErrDuplicate if the states have a key in common, and otherwise the pairs of both.
func checkUnionDefinition(t *testing.T, a, b []api.Pair) {
	t.Helper()
	m := mapOf(a)
	maps.Copy(m, mapOf(b))
	if len(m) < len(a)+len(b) {
		checkUnion(t, a, b, nil, api.ErrDuplicate)
	} else {
		checkUnion(t, a, b, listOf(m), api.OK)
	}
}

func TestP6_4UnionAll(t *testing.T) {
	for _, lists := range [][][]api.Pair{states(), richStates()} {
		for _, a := range lists {
			for _, b := range lists {
				checkUnionDefinition(t, a, b)
			}
		}
	}
}

// TestP6_4UnionErrors requires ErrArg also where the lists have a key in common.
func TestP6_4UnionErrors(t *testing.T) {
	union, wrong := changes()[1], append(wrongLists(), deletions()...)
	union.checkErrors(t, wrong, 0)
	union.checkErrors(t, wrong, 1)
}

// difference is the definition of the result of Diff.
func difference(a, b []api.Pair) []api.Pair {
	from, to, m := mapOf(a), mapOf(b), map[string]api.Value{}
	for k := range from {
		m[k] = to[k]
	}
	maps.Copy(m, to)
	maps.DeleteFunc(m, func(k string, v api.Value) bool { return from[k] == v })
	return listOf(m)
}

func TestP6_5Diff(t *testing.T) {
	l := list(num("b", 2), num("c", 3), str("d", "x"))
	for _, c := range []struct{ a, b, want []api.Pair }{
		{list(num("a", 1)), list(num("a", 2), num("b", 3)), list(num("a", 2), num("b", 3))},
		{nil, nil, nil}, {list(), nil, nil}, {nil, l, l}, {l, nil, list(del("b"), del("c"), del("d"))}, {l, l, nil}, {l, slices.Clone(l), nil}, {nil, list(num("a", 0)), list(num("a", 0))}, {list(str("a", "")), nil, list(del("a"))},
		{l, list(num("b", 9), l[1], l[2]), list(num("b", 9))}, {l, list(l[0], num("c", 9), l[2]), list(num("c", 9))}, {l, list(l[0], l[1], str("d", "y")), list(str("d", "y"))}, {l, list(l[0], l[1], num("d", 0)), list(num("d", 0))},
		{l, l[1:], list(del("b"))}, {l, list(l[0], l[2]), list(del("c"))}, {l, l[:2], list(del("d"))}, {l[1:], l, l[:1]}, {list(l[0], l[2]), l, l[1:2]}, {l[:2], l, l[2:]},
		{l, list(num("a", 1), l[0], l[1], l[2]), list(num("a", 1))}, {l, list(l[0], num("ba", 1), l[1], l[2]), list(num("ba", 1))}, {l, list(l[0], l[1], l[2], num("e", 1)), list(num("e", 1))},
		{l, list(num("a", 1), num("bb", 2), l[2], num("e", 3)), list(num("a", 1), del("b"), num("bb", 2), del("c"), num("e", 3))}, {list(num("a", 1)), list(num("b", 1)), list(del("a"), num("b", 1))}, {list(num("b", 1)), list(num("a", 1)), list(num("a", 1), del("b"))},
		{list(num("a", 0)), list(str("a", "")), list(str("a", ""))}, {list(str("a", "x")), list(str("a", "xx")), list(str("a", "xx"))}, {list(num("a", -1)), list(num("a", 1)), list(num("a", 1))},
	} {
		checkDiff(t, c.a, c.b, c.want)
	}
}

func TestP6_5DiffAll(t *testing.T) {
	for _, lists := range [][][]api.Pair{states(), richStates()} {
		for _, a := range lists {
			for _, b := range lists {
				checkDiff(t, a, b, difference(a, b))
			}
		}
	}
}

// TestP6_5DiffIsFewest compares the result with all writes to the keys that occur and to one that does not.
func TestP6_5DiffIsFewest(t *testing.T) {
	vals := []api.Value{intOf(0), strOf("")}
	small := combinations([]string{"a", "b", "c"}, vals)
	all := combinations([]string{"a", "b", "bb", "c"}, append(vals, api.Value{}))
	for _, a := range small {
		for _, b := range small {
			d, _ := Diff(a, b)
			for _, w := range all {
				got, _ := Apply(a, w)
				if works := slices.Equal(got, b); slices.Equal(w, d) != (works && len(w) <= len(d)) {
					t.Fatalf("Diff(%v, %v) = %v, but %v does it: %t", a, b, d, w, works)
				}
			}
		}
	}
}

func TestP6_5DiffErrors(t *testing.T) {
	diff, wrong := changes()[2], append(wrongLists(), deletions()...)
	diff.checkErrors(t, wrong, 0)
	diff.checkErrors(t, wrong, 1)
}

func checkEncode(t *testing.T, l []api.Pair, want string) {
	t.Helper()
	arg := roomy(l)
	if got := Encode(arg); got != want {
		t.Fatalf("Encode(%v) = %q, want %q", l, got, want)
	}
	checkUnchanged(t, arg, l)
}

func TestP6_6Encode(t *testing.T) {
	long := strings.Repeat("x", 200)
	for _, c := range []struct {
		l    []api.Pair
		want string
	}{
		{nil, "\x00"}, {list(), "\x00"}, {list(num("a", 0)), "\x01\x01a\x01\x00"}, {list(num("a", -1), str("b", "xy")), "\x02\x01a\x01\x01\x01b\x02\x02xy"}, {list(str("a/b", "")), "\x01\x03a/b\x02\x00"},
		{list(num("ab", 300)), "\x01\x02ab\x01\xd8\x04"}, {list(str(long[:24], long[:64])), "\x01\x18" + long[:24] + "\x02\x40" + long[:64]},
		{list(del("a")), "\x01\x01a\x00"}, {list(api.Pair{}), "\x01\x00\x00"}, {list(api.Pair{}, api.Pair{}), "\x02\x00\x00\x00\x00"}, {list(num("b", 1), num("a", 1), num("b", 1)), "\x03\x01b\x01\x02\x01a\x01\x02\x01b\x01\x02"},
		{list(num("\xff A", 1)), "\x01\x03\xff A\x01\x02"}, {list(str("", "\x00\xff")), "\x01\x00\x02\x02\x00\xff"}, {list(str(long, long)), "\x01\xc8\x01" + long + "\x02\xc8\x01" + long},
		{list(pair("a", api.Value{Kind: 3, N: 1, S: "x"})), "\x01\x01a\x00"}, {list(pair("a", api.Value{Kind: 1, N: 1, S: "x"})), "\x01\x01a\x01\x02"}, {list(pair("a", api.Value{Kind: 2, N: 1, S: "x"})), "\x01\x01a\x02\x01x"}, {list(pair("a", api.Value{Kind: -1, N: 1})), "\x01\x01a\x00"},
	} {
		checkEncode(t, c.l, c.want)
	}
	for _, n := range []int{1, 2, 126, 127, 128, 129, 300, 16383, 16384, 16385} {
		checkEncode(t, slices.Repeat(list(num("k", 3)), n), wire.Uint(uint64(n))+strings.Repeat("\x01k\x01\x06", n))
	}
}

// codeOf is the definition of the encoding.
func codeOf(l []api.Pair) string {
	parts := []string{wire.Uint(uint64(len(l)))}
	for _, p := range l {
		parts = append(parts, wire.Text(p.Key), value.Encode(p.Val))
	}
	return strings.Join(parts, "")
}

// anyLists are lists of all sorts.
func anyLists() [][]api.Pair {
	return slices.Concat(richStates(), states(), writes(), wrongLists(), deletions())
}

func TestP6_6EncodeAnyList(t *testing.T) {
	for _, l := range anyLists() {
		checkEncode(t, l, codeOf(l))
	}
	eachList(mixedPairs(), 3, func(l []api.Pair) { checkEncode(t, l, codeOf(l)) })
}

func checkDecode(t *testing.T, s string, at int, want []api.Pair, next int) {
	t.Helper()
	if got, gotNext, e := Decode(s, at); !slices.Equal(got, want) || gotNext != next || e != api.OK {
		t.Fatalf("Decode(%q, %d) = %v, %d, %d, want %v, %d, OK", s, at, got, gotNext, e, want, next)
	}
}

// checkDecodeError requires an error, with which the list is empty and the offset zero.
func checkDecodeError(t *testing.T, s string, at int, want api.Errno) {
	t.Helper()
	if got, next, e := Decode(s, at); len(got) != 0 || next != 0 || e != want {
		t.Fatalf("Decode(%q, %d) = %v, %d, %d, want an empty list, 0, %d", s, at, got, next, e, want)
	}
}

// checkDecodeAnywhere also requires what checkDecode does with bytes before the encoding, and behind it if it is not an error that the string ends.
func checkDecodeAnywhere(t *testing.T, s string, want []api.Pair, e api.Errno) {
	t.Helper()
	for _, before := range []string{"", "\x00", "\x01", "\x80", "\xff\xff", "z", "\x01\x01a\x01\x00"} {
		for _, behind := range []string{"", "\x00", "\x01", "\x80", "\xff", "z", "\x01z\x01\x00", "\x01\x01a\x01\x00"} {
			if e == api.OK {
				checkDecode(t, before+s+behind, len(before), want, len(before+s))
			} else if e != api.ErrTruncated || behind == "" {
				checkDecodeError(t, before+s+behind, len(before), e)
			}
		}
	}
}

func TestP6_6Decode(t *testing.T) {
	long := strings.Repeat("x", 64)
	for _, c := range []struct {
		s    string
		want []api.Pair
	}{
		{"\x00", nil}, {"\x01\x01a\x01\x00", list(num("a", 0))}, {"\x02\x01a\x01\x01\x01b\x02\x02xy", list(num("a", -1), str("b", "xy"))}, {"\x01\x03a/b\x02\x00", list(str("a/b", ""))},
		{"\x01\x18" + long[:24] + "\x02\x40" + long, list(str(long[:24], long))}, {"\x03\x01a\x01\x00\x02aa\x01\x00\x01b\x01\x00", list(num("a", 0), num("aa", 0), num("b", 0))},
		{"\x01\x01a\x01\xff\xff\xff\xff\xff\xff\xff\xff\xff\x01", list(num("a", math.MinInt64))},
	} {
		checkDecodeAnywhere(t, c.s, c.want, api.OK)
	}
}

func TestP6_6DecodeErrors(t *testing.T) {
	long := strings.Repeat("x", 65)
	for _, c := range []struct {
		s    string
		want api.Errno
	}{
		// The number.
		{"", api.ErrTruncated}, {"\x80", api.ErrTruncated}, {"\xff\xff\xff", api.ErrTruncated}, {"\x80\x00", api.ErrSyntax}, {"\x81\x80\x00\x01a\x01\x00", api.ErrSyntax}, {strings.Repeat("\xff", 9) + "\x02", api.ErrSyntax},
		{"\x01", api.ErrTruncated}, {"\x05\x01a\x01", api.ErrTruncated}, {"\x05\x01a\x01\x00", api.ErrTruncated}, {"\x7f" + strings.Repeat("\x80", 126), api.ErrTruncated},
		{wire.Uint(1<<31-2) + "a", api.ErrTruncated}, {wire.Uint(1<<31-1) + "a", api.ErrTruncated}, {wire.Uint(1<<31) + "a", api.ErrLimit}, {wire.Uint(1 << 31), api.ErrLimit}, {wire.Uint(1<<32+1) + "\x01a\x01\x00", api.ErrLimit},
		{wire.Uint(1<<63) + "a", api.ErrLimit}, {wire.Uint(1<<63+1) + "\x01a\x01\x00", api.ErrLimit}, {wire.Uint(1<<64-1) + "a", api.ErrLimit},
		// A key.
		{"\x01\x80", api.ErrTruncated}, {"\x01\x01", api.ErrTruncated}, {"\x01\x02a", api.ErrTruncated}, {"\x01\x18" + long[:23], api.ErrTruncated}, {"\x01\x19", api.ErrLimit}, {"\x01\x19" + long[:25] + "\x01\x00", api.ErrLimit}, {"\x01\x80\x01", api.ErrLimit},
		{"\x01\x80\x00\x01\x00", api.ErrSyntax}, {"\x01\x81\x00a\x01\x00", api.ErrSyntax}, {"\x01\x00\x01\x00", api.ErrSyntax}, {"\x01\x01A\x01\x00", api.ErrSyntax}, {"\x01\x01 \x01\x00", api.ErrSyntax}, {"\x01\x01\x00\x01\x00", api.ErrSyntax},
		{"\x01\x02a{\x01\x00", api.ErrSyntax}, {"\x01\x02\xffa\x01\x00", api.ErrSyntax}, {"\x02\x01a\x01\x00\x02bB\x01\x00", api.ErrSyntax}, {"\x02\x01A\x01\x00\x01b\x01\x00", api.ErrSyntax}, {"\x01\xff\xff\xff\xff\xff\xff\xff\xff\xff\x01", api.ErrLimit},
		// A value.
		{"\x01\x01a", api.ErrTruncated}, {"\x01\x01a\x80", api.ErrTruncated}, {"\x01\x01a\x01", api.ErrTruncated}, {"\x01\x01a\x01\x80", api.ErrTruncated}, {"\x01\x01a\x02", api.ErrTruncated}, {"\x01\x01a\x02\x02b", api.ErrTruncated},
		{"\x01\x01a\x03", api.ErrSyntax}, {"\x01\x01a\x80\x00", api.ErrSyntax}, {"\x01\x01a\x01\x80\x00", api.ErrSyntax}, {"\x01\x01a\x01" + strings.Repeat("\xff", 9) + "\x02", api.ErrSyntax}, {"\x01\x01a\x02\x41" + long, api.ErrLimit}, {"\x01\x01a\x02\x41", api.ErrLimit},
		{"\x01\x01a\x02\x01\x1f", api.ErrSyntax}, {"\x01\x01a\x02\x02a\x7f", api.ErrSyntax}, {"\x01\x01a\x02\x80\x00", api.ErrSyntax},
		{"\x01\x01a\x00", api.ErrSyntax}, {"\x02\x01a\x00\x01b\x01\x00", api.ErrSyntax}, {"\x02\x01a\x01\x00\x01b\x00", api.ErrSyntax}, {"\x01\x00\x00", api.ErrSyntax},
		// The order of the keys.
		{"\x02\x01b\x01\x00\x01a\x01\x00", api.ErrSyntax}, {"\x02\x01a\x01\x00\x01a\x01\x00", api.ErrSyntax}, {"\x02\x02aa\x01\x00\x01a\x01\x00", api.ErrSyntax}, {"\x03\x01a\x01\x00\x01c\x01\x00\x01b\x01\x00", api.ErrSyntax}, {"\x03\x01b\x01\x00\x01a\x01\x00\x01c\x01\x00", api.ErrSyntax},
		{"\x03\x01a\x01\x00\x01b\x01\x00\x01b\x02\x00", api.ErrSyntax}, {"\x03\x01a\x01\x00\x01a\x02\x00\x01b\x02\x00", api.ErrSyntax}, {"\x03\x01b\x01\x00\x01c\x01\x00\x01a\x01\x00", api.ErrSyntax},
	} {
		checkDecodeAnywhere(t, c.s, nil, c.want)
	}
}

// TestP6_6FirstError requires that an error of any pair comes before the one that the list is no state, and that of two pairs the first one decides.
func TestP6_6FirstError(t *testing.T) {
	odd := []string{"\x01A\x01\x00", "\x00\x01\x00", "\x01z\x00", "\x01z\x01\x00", "\x01a\x01\x00\x01a\x01\x00"}
	for _, before := range odd {
		n := 2 + strings.Count(before, "a")/2
		start := wire.Uint(uint64(n)) + before
		for _, c := range []struct {
			s    string
			want api.Errno
		}{
			{"\x19" + strings.Repeat("k", 25) + "\x01\x00", api.ErrLimit}, {"\x01b\x02\x41" + strings.Repeat("x", 65), api.ErrLimit}, {"\x02b", api.ErrTruncated}, {"\x01b\x01", api.ErrTruncated}, {"", api.ErrTruncated}, {"\x01b", api.ErrTruncated},
		} {
			checkDecodeError(t, start+c.s, 0, c.want)
			checkDecodeError(t, "??"+start+c.s, 2, c.want)
		}
	}
	checkDecodeError(t, "\x03\x19"+strings.Repeat("k", 25)+"\x01\x00\x01a\x03", 0, api.ErrLimit)
	checkDecodeError(t, "\x03\x01a\x03\x19", 0, api.ErrSyntax)
	checkDecodeError(t, "\x03\x01a\x02\x01\n\x19", 0, api.ErrSyntax)
	checkDecodeError(t, "\x04\x00\x00\x00\x00", 0, api.ErrTruncated)
	checkDecodeError(t, "\x80\x02"+strings.Repeat("\x00", 256), 0, api.ErrTruncated)
	checkDecodeError(t, "\x80\x02"+strings.Repeat("\x00", 512), 0, api.ErrSyntax)
}

// TestP6_6DecodeOffsets decodes encodings that stand one behind the other, from every offset inside and outside of the string.
func TestP6_6DecodeOffsets(t *testing.T) {
	s := "\x01\x01a\x01\x00\x00\x01\x01b\x02\x01c"
	for at := -2; at <= len(s)+2; at++ {
		switch at {
		case 0:
			checkDecode(t, s, at, list(num("a", 0)), 5)
		case 4, 5:
			checkDecode(t, s, at, nil, at+1)
		case 6:
			checkDecode(t, s, at, list(str("b", "c")), len(s))
		default:
			_, _, e := decoded(s, at)
			checkDecodeError(t, s, at, e)
		}
	}
	for _, at := range []int{math.MinInt, math.MinInt32, -1, len(s) + 1, math.MaxInt32, math.MaxInt} {
		checkDecodeError(t, s, at, api.ErrArg)
	}
	for _, at := range []int{math.MinInt, -1, 1, 2, math.MaxInt} {
		checkDecodeError(t, "", at, api.ErrArg)
	}
	checkDecodeError(t, s, len(s), api.ErrTruncated)
	checkDecodeError(t, "", 0, api.ErrTruncated)
	var all strings.Builder
	for _, l := range anyLists() {
		all.WriteString(Encode(l))
	}
	next := 0
	for _, l := range anyLists() {
		at := next
		next += len(Encode(l))
		if isState(l) {
			checkDecode(t, all.String(), at, l, next)
		}
	}
}

// decoded is the definition of the result of Decode.
func decoded(s string, at int) ([]api.Pair, int, api.Errno) {
	var l []api.Pair
	n, next, e := wire.TakeCount(s, at, 1<<31-1)
	for i := 0; i < n && e == api.OK; i++ {
		var p api.Pair
		p.Key, next, e = wire.TakeText(s, next, longestKey)
		if e == api.OK {
			p.Val, next, e = value.Decode(s, next)
		}
		l = append(l, p)
	}
	if e == api.OK && !isState(l) {
		e = api.ErrSyntax
	}
	if e != api.OK {
		return nil, 0, e
	}
	return l, next, api.OK
}

func checkDecodeDefinition(t *testing.T, s string, at int) api.Errno {
	t.Helper()
	want, next, e := decoded(s, at)
	if e == api.OK {
		checkDecode(t, s, at, want, next)
	} else {
		checkDecodeError(t, s, at, e)
	}
	return e
}

// TestP6_6DecodeAnyList decodes the encodings of lists that are no states.
func TestP6_6DecodeAnyList(t *testing.T) {
	for _, l := range anyLists() {
		checkDecodeDefinition(t, Encode(l), 0)
	}
	eachList(mixedPairs(), 3, func(l []api.Pair) { checkDecodeDefinition(t, "?"+Encode(l)+"?", 1) })
}

// TestP6_6EveryByte changes each byte of an encoding to every other one.
func TestP6_6EveryByte(t *testing.T) {
	code := Encode(list(num("a", -300), str("ab", "xyz"), str("b/", ""), num("c", 5)))
	for i := range code {
		for b := range 256 {
			s := []byte(code)
			s[i] = byte(b)
			if e := checkDecodeDefinition(t, string(s), 0); e == api.OK {
				got, next, _ := Decode(string(s), 0)
				if Encode(got) != string(s[:next]) {
					t.Fatalf("Decode accepts %q, but the encoding of its result is %q", s[:next], Encode(got))
				}
			}
		}
	}
}

// eachText calls f for all strings of up to most of the parts.
func eachText(parts []string, most int, f func(s string)) {
	f("")
	if most == 0 {
		return
	}
	for _, part := range parts {
		eachText(parts, most-1, func(s string) { f(s + part) })
	}
}

func TestP6_6AllShortEncodings(t *testing.T) {
	accepted := 0
	eachText([]string{"\x00", "\x01", "\x02", "\x01a\x01\x02", "\x01b\x02\x01x", "\x01c", "\x03", "\x80", strings.Repeat("k", 24), "\x18"}, 5, func(s string) {
		for _, at := range []int{0, 1, len(s)} {
			if checkDecodeDefinition(t, s, at) == api.OK {
				accepted++
			}
		}
	})
	if accepted < 1000 {
		t.Errorf("only %d encodings are accepted", accepted)
	}
}

// mustApply returns the state after the writes.
func mustApply(t *testing.T, l, writes []api.Pair) []api.Pair {
	t.Helper()
	got, e := Apply(l, writes)
	if e != api.OK {
		t.Fatalf("Apply(%v, %v) returns %d", l, writes, e)
	}
	return got
}

func TestP6_7ApplyOfDiff(t *testing.T) {
	for _, lists := range [][][]api.Pair{states(), richStates()} {
		for _, a := range lists {
			if d, e := Diff(a, a); len(d) != 0 || e != api.OK {
				t.Fatalf("Diff(%v, %v) = %v, %d", a, a, d, e)
			}
			for _, b := range lists {
				d, e := Diff(a, b)
				if got := mustApply(t, a, d); e != api.OK || !slices.Equal(got, b) {
					t.Fatalf("Diff(%v, %v) = %v, %d, which gives %v", a, b, d, e, got)
				}
			}
		}
	}
}

func TestP6_7ApplyTwice(t *testing.T) {
	for _, l := range states() {
		for _, w := range writes() {
			once := mustApply(t, l, w)
			if twice := mustApply(t, once, w); !isState(once) || !slices.Equal(once, twice) {
				t.Fatalf("Apply(%v, %v) = %v once, and %v twice", l, w, once, twice)
			}
		}
	}
}

func TestP6_8UnionOfParts(t *testing.T) {
	bounds := []string{"", "!", "a", "a!", "b", "ba", "bb", "c", "d", "k050", "k999/x", "z", "~", " ", strings.Repeat("m", 25)}
	for _, l := range append(richStates(), states()...) {
		for _, from := range bounds {
			for _, to := range bounds {
				inside := Slice(l, api.Range{From: from, To: to})
				others := slices.DeleteFunc(slices.Clone(l), func(p api.Pair) bool { return slices.Contains(inside, p) })
				checkUnion(t, inside, others, l, api.OK)
			}
		}
	}
}

func TestP6_9RoundTrip(t *testing.T) {
	for _, l := range append(richStates(), states()...) {
		checkDecodeAnywhere(t, Encode(l), l, api.OK)
	}
}

// TestP6_9NoPrefix requires that no beginning of an encoding is accepted.
func TestP6_9NoPrefix(t *testing.T) {
	for _, l := range append(richStates()[:9:9], states()...) {
		code := Encode(l)
		for end := range len(code) {
			checkDecodeError(t, code[:end], 0, api.ErrTruncated)
			checkDecodeError(t, "\x00"+code[:end], 1, api.ErrTruncated)
		}
	}
}

// bytesOf returns the memory of the pairs and of their strings.
func bytesOf(l []api.Pair) [][]byte {
	size := int(unsafe.Sizeof(api.Pair{}))
	memory := [][]byte{unsafe.Slice((*byte)(unsafe.Pointer(unsafe.SliceData(l))), len(l)*size)}
	for _, p := range l {
		memory = append(memory, textBytes(p.Key), textBytes(p.Val.S))
	}
	return memory
}

func textBytes(s string) []byte {
	return unsafe.Slice(unsafe.StringData(s), len(s))
}

// overlap tells whether two parts of the memory have a byte in common.
func overlap(a, b []byte) bool {
	if len(a) == 0 || len(b) == 0 {
		return false
	}
	startA, startB := uintptr(unsafe.Pointer(&a[0])), uintptr(unsafe.Pointer(&b[0]))
	return startA < startB+uintptr(len(b)) && startB < startA+uintptr(len(a))
}

// checkNewMemory requires that the result is not empty and shares no memory with the arguments.
func checkNewMemory(t *testing.T, name string, result []api.Pair, arguments [][]byte) {
	t.Helper()
	if len(result) == 0 {
		t.Errorf("%s returns nothing", name)
	}
	for _, x := range bytesOf(result) {
		for _, y := range arguments {
			if overlap(x, y) {
				t.Errorf("%s returns %v, of which %q is in the memory of an argument", name, result, x)
			}
		}
	}
}

func TestP0_4NewMemory(t *testing.T) {
	a := list(str("ax", "one"), str("bx", "two"), str("cx", "three"))
	b := list(str("ay", "four"), num("by", 5), str("cy", "six"))
	w := list(str("ax", "other"), str("bw", "seven"), del("cx"))
	memory := slices.Concat(bytesOf(a), bytesOf(b), bytesOf(w))
	for _, c := range changes() {
		first, _ := c.f(a, b)
		second, _ := c.f(b, a)
		checkNewMemory(t, c.name, first, memory)
		checkNewMemory(t, c.name, second, memory)
		for _, args := range [][2][]api.Pair{{a, nil}, {nil, a}} {
			if one, _ := c.f(args[0], args[1]); c.name != "Apply" || len(args[0]) > 0 {
				checkNewMemory(t, c.name, one, memory)
			}
		}
	}
	written, _ := Apply(a, w)
	changed, _ := Diff(a, written)
	checkNewMemory(t, "Apply", written, memory)
	checkNewMemory(t, "Diff", changed, slices.Concat(memory, bytesOf(written)))
	checkNewMemory(t, "Slice", Slice(a, api.Range{}), memory)
	checkNewMemory(t, "Slice", Slice(a, api.Range{From: "b"}), memory)
	checkNewMemory(t, "Get", list(pair("key", Get(a, "bx"))), memory)
	code := Encode(a)
	read, _, _ := Decode(code, 0)
	checkNewMemory(t, "Decode", read, [][]byte{textBytes(code)})
	for _, y := range memory {
		if overlap(textBytes(code), y) {
			t.Errorf("Encode returns memory of its argument")
		}
	}
}

// TestP0_4ResultsAreKept requires that later changes of an argument change no result, and the other way round.
func TestP0_4ResultsAreKept(t *testing.T) {
	for _, c := range changes() {
		a, b := list(num("a", 1), num("c", 3)), list(num("b", 2), num("d", 4))
		got, _ := c.f(a, b)
		want := slices.Clone(got)
		a[0], b[1] = num("z", 9), num("z", 9)
		if !slices.Equal(got, want) {
			t.Errorf("%s: the result %v was changed to %v", c.name, want, got)
		}
		clear(got[:cap(got)])
		if !slices.Equal(a, list(num("z", 9), num("c", 3))) || !slices.Equal(b, list(num("b", 2), num("z", 9))) {
			t.Errorf("%s: the arguments were changed to %v and %v", c.name, a, b)
		}
	}
}
