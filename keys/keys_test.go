package keys

import (
	"clockwork/api"
	"slices"
	"strings"
	"testing"
	"unsafe"
)

// The tests write the bytes out, where the package computes with them.
const (
	keyBytes   = "abcdefghijklmnopqrstuvwxyz0123456789/._-"
	boundBytes = "!\"#$%&'()*+,-./0123456789:;<=>?@ABCDEFGHIJKLMNOPQRSTUVWXYZ[\\]^_`abcdefghijklmnopqrstuvwxyz{|}~"
	longest    = 24
	tooLong    = "mmmmmmmmmmmmmmmmmmmmmmmmm"
)

func span(from, to string) api.Range {
	return api.Range{From: from, To: to}
}

// isMadeOf tells whether s has at most MaxKey bytes, all of which occur in bytes.
func isMadeOf(s, bytes string) bool {
	return len(s) <= longest && strings.Trim(s, bytes) == ""
}

// holds is the definition of the strings that a range contains.
func holds(r api.Range, k string) bool {
	return isRange(r) && strings.Compare(r.From, k) <= 0 && (r.To == "" || strings.Compare(k, r.To) < 0)
}

// isRange is the definition of a valid range.
func isRange(r api.Range) bool {
	return isMadeOf(r.From, boundBytes) && isMadeOf(r.To, boundBytes) && (r.To == "" || strings.Compare(r.From, r.To) < 0)
}

// everyByte returns the strings of one byte.
func everyByte() []string {
	list := make([]string, 256)
	for i := range list {
		list[i] = string([]byte{byte(i)})
	}
	return list
}

// textsAround returns strings in which b stands alone, at the beginning, in the middle and at the end, of up to MaxKey bytes and one more.
func textsAround(b string) []string {
	list := []string{b, b + b, b + "a", "a" + b, "a" + b + "a"}
	for _, n := range []int{longest - 1, longest} {
		for before := range n + 1 {
			list = append(list, strings.Repeat("k", before)+b+strings.Repeat("k", n-before))
		}
	}
	return append(list, strings.Repeat(b, longest), strings.Repeat(b, longest+1))
}

// strangeTexts are neither keys nor bounds.
func strangeTexts() []string {
	list := []string{" ", "\x00", "\x1f", "\x7f", "\x80", "\xff", "é", "\xc3", "日本"}
	list = append(list, "a b", " a", "a ", "a\n", "\ta", "a\x00", "b\x7f")
	for _, b := range []string{"a", "!", "~", "\xff"} {
		list = append(list, strings.Repeat(b, longest+1), strings.Repeat(b, 100))
	}
	return list
}

// goodBounds are bounds with their close neighbors, in ascending order.
func goodBounds() []string {
	list := []string{"", "!", "!!", "-", "0", "9", "A", "a", "a!", "a/z", "a/{", "a~", "ab", "abc", "b", "b!", "c", "z", "{", "~", "~~"}
	list = append(list, strings.Repeat("a", longest), strings.Repeat("~", longest))
	slices.Sort(list)
	return list
}

// badBounds are no bounds: a byte is one that no bound may hold, or there are too many.
func badBounds() []string {
	return []string{" ", "a ", "b\x7f", "\x7f", "\x80", "\xff", strings.Repeat("a", longest+1), strings.Repeat("~", longest+1)}
}

// rangesOf returns the ranges between any two of the bounds, valid or not.
func rangesOf(bounds []string) []api.Range {
	var list []api.Range
	for _, from := range bounds {
		for _, to := range bounds {
			list = append(list, api.Range{From: from, To: to})
		}
	}
	return list
}

// allRanges are valid and invalid ranges of every relation to one another.
func allRanges() []api.Range {
	few := []string{"", "!", "a", "a!", "ab", "b", "c", "~", strings.Repeat("b", longest)}
	return rangesOf(append(few, " ", "b\x7f", "\xff", strings.Repeat("b", longest+1)))
}

// probes are strings at, just below and just above the bounds, among them many that are no keys and no bounds.
func probes() []string {
	list := strangeTexts()
	for _, s := range append(goodBounds(), badBounds()...) {
		list = append(list, s, s+"\x00", s+"!", s+"a", s+"\xff")
		if s != "" {
			below := []byte(s)
			below[len(below)-1]--
			list = append(list, string(below), string(below)+"\xff", s[:len(s)-1])
		}
	}
	slices.Sort(list)
	return slices.Compact(list)
}

func TestP4_1Valid(t *testing.T) {
	for _, c := range []struct {
		k    string
		want bool
	}{
		{"", false}, {"a/b.1_-", true}, {"A", false}, {"a", true}, {"z", true}, {"0", true}, {"9", true},
		{"/", true}, {".", true}, {"_", true}, {"-", true},
		{"`", false}, {"{", false}, {":", false}, {",", false}, {"^", false}, {"+", false}, {"!", false}, {"~", false},
		{" ", false}, {"\x00", false}, {"\x7f", false}, {"\xff", false},
		{"é", false}, {"a b", false}, {"a\n", false}, {"aB", false}, {"Ba", false},
		{strings.Repeat("z", 23), true}, {strings.Repeat("z", 24), true}, {strings.Repeat("z", 25), false}, {strings.Repeat("z", 1000), false},
	} {
		if got := Valid(c.k); got != c.want {
			t.Errorf("Valid(%q) = %t", c.k, got)
		}
	}
}

func TestP4_1ValidEveryByte(t *testing.T) {
	count := 0
	for _, b := range everyByte() {
		want := strings.Contains(keyBytes, b)
		if want {
			count++
		}
		if got := Valid(b); got != want {
			t.Errorf("Valid(%q) = %t", b, got)
		}
		for _, k := range textsAround(b) {
			if got := Valid(k); got != (want && len(k) <= longest) {
				t.Fatalf("Valid(%q) = %t", k, got)
			}
		}
	}
	if count != 40 {
		t.Errorf("%d bytes are keys", count)
	}
}

func TestP4_1ValidRange(t *testing.T) {
	long := tooLong[1:]
	for _, c := range []struct {
		from, to string
		want     bool
	}{
		{"", "", true}, {"b", "", true}, {"", "b", true}, {"a", "b", true}, {"a", "a!", true}, {"ab", "b", true},
		{"A", "a", true}, {"9", "a", true}, {"!", "~", true}, {"{", "~", true},
		{"b", "b", false}, {"c", "b", false}, {"ab", "a", false}, {"b", "ab", false}, {"~", "!", false}, {"a", "Z", false}, {"!", "!", false},
		{" ", "", false}, {"", " ", false}, {" ", "a", false}, {"a", "b ", false}, {"\x7f", "", false}, {"", "\x7f", false},
		{"a", "\x7f", false}, {"a", "\x80", false}, {"a", "\xff", false}, {"", "é", false}, {"\x00", "a", false},
		{"a b", "c", false},
		{long, "", true}, {"", long, true}, {long, "n", true}, {"a", long, true},
		{long, long, false}, {long, long[1:], false}, {long[1:], long, true},
		{tooLong, "", false}, {"", tooLong, false}, {tooLong, "n", false}, {"a", tooLong, false},
		{long, tooLong, false}, {tooLong, tooLong + "m", false},
	} {
		if got := ValidRange(api.Range{From: c.from, To: c.to}); got != c.want {
			t.Errorf("ValidRange(%q, %q) = %t", c.from, c.to, got)
		}
	}
	for _, r := range rangesOf(append(goodBounds(), badBounds()...)) {
		if got := ValidRange(r); got != isRange(r) {
			t.Errorf("ValidRange(%q) = %t", r, got)
		}
	}
}

func TestP4_1ValidRangeEveryByte(t *testing.T) {
	count := 0
	for _, b := range everyByte() {
		want := strings.Contains(boundBytes, b)
		if want {
			count++
		}
		for _, s := range append(textsAround(b), b+"~", "!"+b) {
			fits := want && len(s) <= longest
			if got := ValidRange(api.Range{From: s}); got != fits {
				t.Fatalf("ValidRange(from %q) = %t", s, got)
			}
			if got := ValidRange(api.Range{To: s}); got != fits {
				t.Fatalf("ValidRange(to %q) = %t", s, got)
			}
		}
	}
	if count != 126-33+1 {
		t.Errorf("%d bytes are bounds", count)
	}
}

func TestP4_1Contains(t *testing.T) {
	for _, c := range []struct {
		from, to, k string
		want        bool
	}{
		{"", "", "", true}, {"", "", "a", true}, {"", "", "\x00", true}, {"", "", "\xff", true}, {"", "", tooLong, true},
		{"b", "", "b", true}, {"b", "", "", false}, {"b", "", "a", false}, {"b", "", "a\xff", false},
		{"b", "", "b\x00", true}, {"b", "", "c", true}, {"b", "", "\xff", true}, {"~", "", "é", true},
		{"", "b", "", true}, {"", "b", "a~", true}, {"", "b", "a\xff", true}, {"", "b", "\x00", true}, {"", "b", " ", true},
		{"", "b", "b", false}, {"", "b", "b\x00", false}, {"", "b", "\xff", false}, {"", "b", "A", true},
		{"b", "d", "b", true}, {"b", "d", "c", true}, {"b", "z", tooLong, true}, {"b", "d", "c\xff\xff", true},
		{"b", "d", "d", false}, {"b", "d", "a", false}, {"b", "d", "d!", false}, {"b", "d", "", false},
		{"b", "d", "C", false},
		{"b", "b", "b", false}, {"c", "b", "c", false}, {"c", "b", "b", false}, {"a b", "", "c", false},
		{"", "c ", "a", false}, {"", "\xff", "a", false}, {"\x7f", "", "\x80", false}, {"a", "\x7f", "b", false},
		{tooLong, "", "n", false}, {"", tooLong, "a", false},
	} {
		if got := Contains(api.Range{From: c.from, To: c.to}, c.k); got != c.want {
			t.Errorf("Contains(%q to %q, %q) = %t", c.from, c.to, c.k, got)
		}
	}
	for _, r := range rangesOf(append(goodBounds(), badBounds()...)) {
		for _, k := range probes() {
			if got := Contains(r, k); got != holds(r, k) {
				t.Fatalf("Contains(%q, %q) = %t", r, k, got)
			}
		}
	}
}

func TestP4_2Covers(t *testing.T) {
	invalid := span("x", "a")
	for _, c := range []struct {
		a, b api.Range
		want bool
	}{
		{span("", ""), span("", ""), true}, {span("", ""), span("b", ""), true}, {span("", ""), span("", "b"), true},
		{span("", ""), span("b", "d"), true},
		{span("b", ""), span("", ""), false}, {span("", "b"), span("", ""), false}, {span("", "b"), span("a", ""), false},
		{span("b", "d"), span("c", ""), false},
		{span("b", "d"), span("b", "d"), true}, {span("b", "d"), span("b", "c"), true},
		{span("b", "d"), span("c", "d"), true}, {span("b", "d"), span("c", "c!"), true},
		{span("b", "d"), span("a", "d"), false}, {span("b", "d"), span("b", "e"), false},
		{span("b", "d"), span("b", "d!"), false}, {span("b", "d"), span("a", "e"), false},
		{span("b", "d"), span("d", "e"), false}, {span("b", "d"), span("a", "b"), false},
		{span("b", "d"), span("e", "f"), false}, {span("b", "d"), span("", "c"), false},
		{span("b", "d"), invalid, true}, {invalid, span("b", "d"), false}, {invalid, invalid, true},
		{invalid, span("y", "z"), false}, {invalid, span("", ""), false},
		{span("", "b "), span("", "a"), false}, {span(" ", ""), span("a", ""), false}, {span("", "a"), span("", "b "), true},
		{span("", "a"), span(tooLong, ""), true},
	} {
		if got := Covers(c.a, c.b); got != c.want {
			t.Errorf("Covers(%q, %q) = %t", c.a, c.b, got)
		}
	}
	for _, a := range allRanges() {
		for _, b := range allRanges() {
			want := !isRange(b) || isRange(a) && a.From <= b.From && (a.To == "" || b.To != "" && b.To <= a.To)
			if got := Covers(a, b); got != want {
				t.Fatalf("Covers(%q, %q) = %t", a, b, got)
			}
		}
	}
}

func TestP4_3Intersect(t *testing.T) {
	for _, c := range []struct {
		a, b, want api.Range
		ok         bool
	}{
		{span("", ""), span("", ""), span("", ""), true}, {span("", ""), span("d", ""), span("d", ""), true},
		{span("", ""), span("", "d"), span("", "d"), true}, {span("", ""), span("b", "d"), span("b", "d"), true},
		{span("b", ""), span("d", ""), span("d", ""), true}, {span("", "b"), span("", "d"), span("", "b"), true},
		{span("b", ""), span("", "d"), span("b", "d"), true}, {span("d", ""), span("", "b"), span("", ""), false},
		{span("b", ""), span("", "b"), span("", ""), false},
		{span("b", "d"), span("c", "e"), span("c", "d"), true}, {span("b", "d"), span("b", "d"), span("b", "d"), true},
		{span("b", "e"), span("c", "d"), span("c", "d"), true}, {span("b", "d"), span("b", "c"), span("b", "c"), true},
		{span("b", "d"), span("d", "e"), span("", ""), false}, {span("b", "d"), span("d", ""), span("", ""), false},
		{span("b", "c"), span("d", "e"), span("", ""), false}, {span("b", "d!"), span("d", ""), span("d", "d!"), true},
		{span("", ""), span("c", "b"), span("", ""), false}, {span("", ""), span("c", "c"), span("", ""), false},
		{span("b", ""), span("a ", ""), span("", ""), false}, {span("", "b"), span("", "c "), span("", ""), false},
		{span("b", "d"), span("", tooLong), span("", ""), false},
	} {
		checkIntersect(t, c.a, c.b, c.want, c.ok)
		checkIntersect(t, c.b, c.a, c.want, c.ok)
	}
	for _, a := range allRanges() {
		for _, b := range allRanges() {
			want, ok := bothOf(a, b)
			checkIntersect(t, a, b, want, ok)
		}
	}
}

// bothOf is the definition of the result of Intersect, where "\xff" stands for an empty upper bound.
func bothOf(a, b api.Range) (api.Range, bool) {
	froms, ends := []string{a.From, b.From}, []string{a.To, b.To}
	for i := range ends {
		if ends[i] == "" {
			ends[i] = "\xff"
		}
	}
	r := api.Range{From: slices.Max(froms), To: slices.Min(ends)}
	if r.To == "\xff" {
		r.To = ""
	}
	if !isRange(a) || !isRange(b) || !isRange(r) {
		return api.Range{}, false
	}
	return r, true
}

func checkIntersect(t *testing.T, a, b, want api.Range, ok bool) {
	t.Helper()
	if got, gotOk := Intersect(a, b); got != want || gotOk != ok {
		t.Fatalf("Intersect(%q, %q) = %q, %t, want %q, %t", a, b, got, gotOk, want, ok)
	}
}

func TestP4_4Split(t *testing.T) {
	long := strings.Repeat("c", longest)
	for _, c := range []struct {
		from, to, at string
		ok           bool
	}{
		{"ab", "ac", "abc", true}, {"ab", "ac", "ab", false}, {"ab", "ac", "ac", false}, {"ab", "ac", "ab!", true},
		{"ab", "ac", "ab~", true}, {"ab", "ac", "aa~", false}, {"ab", "ac", "ac!", false},
		{"b", "d", "c", true}, {"b", "d", "a", false}, {"b", "d", "e", false}, {"b", "d", "", false},
		{"b", "d", "c ", false}, {"b", "d", "c\x7f", false}, {"b", "d", "c\xff", false}, {"b", "d", "c\x00", false},
		{"b", "d", "b ", false}, {"b", "d", "C", false}, {"b", "d", "c!", true}, {"b", "d", "c~A", true},
		{"b", "d", long, true}, {"b", "d", long + "c", false}, {"b", "", long, true}, {"b", "", long + "c", false},
		{long, "d", "cd", true}, {"b", long, "c", true},
		{"", "", "a", true}, {"", "", "!", true}, {"", "", "~", true}, {"", "", "", false},
		{"", "", " ", false}, {"", "", "\x7f", false}, {"", "", "\xff", false},
		{"b", "", "c", true}, {"b", "", "b", false}, {"b", "", "a", false}, {"b", "", "b!", true}, {"", "b", "a", true},
		{"", "b", "b", false}, {"", "b", "", false}, {"", "b", "c", false},
		{"d", "b", "c", false}, {"b", "b", "b", false}, {"b", "b", "c", false}, {"b ", "d", "c", false},
		{"b", "d ", "c", false}, {"b", "\x7f", "c", false}, {long + "c", "d", "cd", false}, {"b", long + "c", "c", false},
		{" ", "", "b", false},
	} {
		checkSplit(t, api.Range{From: c.from, To: c.to}, c.at, c.ok)
	}
	texts := append(goodBounds(), badBounds()...)
	for _, r := range rangesOf(texts) {
		for _, at := range append(texts, strangeTexts()...) {
			checkSplit(t, r, at, isRange(r) && isMadeOf(at, boundBytes) && at > r.From && (r.To == "" || at < r.To))
		}
	}
}

func TestP4_4SplitEveryByte(t *testing.T) {
	for _, b := range everyByte() {
		for _, at := range textsAround(b) {
			checkSplit(t, api.Range{}, at, strings.Contains(boundBytes, b) && len(at) <= longest)
		}
	}
}

// checkSplit requires the two parts if ok, and otherwise an error, with which both are zero.
func checkSplit(t *testing.T, r api.Range, at string, ok bool) {
	t.Helper()
	low, high, want := api.Range{From: r.From, To: at}, api.Range{From: at, To: r.To}, api.OK
	if !ok {
		low, high, want = api.Range{}, api.Range{}, api.ErrArg
	}
	if gotLow, gotHigh, e := Split(r, at); gotLow != low || gotHigh != high || e != want {
		t.Fatalf("Split(%q, %q) = %q, %q, %d, want %q, %q, %d", r, at, gotLow, gotHigh, e, low, high, want)
	}
}

func TestP4_5Prefix(t *testing.T) {
	for _, c := range []struct{ p, to string }{
		{"", ""}, {"ab", "ac"}, {"a/z", "a/{"}, {"z", "{"}, {"zz", "z{"}, {"y", "z"}, {"a", "b"}, {"0", "1"}, {"9", ":"},
		{"/", "0"}, {".", "/"}, {"_", "`"}, {"-", "."}, {"a/b.1_-", "a/b.1_."},
		{strings.Repeat("a", 24), strings.Repeat("a", 23) + "b"}, {strings.Repeat("z", 24), strings.Repeat("z", 23) + "{"},
		{strings.Repeat("z", 23), strings.Repeat("z", 22) + "{"},
	} {
		checkPrefix(t, c.p, api.Range{From: c.p, To: c.to}, api.OK)
	}
	for _, p := range append(strangeTexts(), "A", "Ab", "aB", "{", "a{", "`", "!", "~", ":", "a b", strings.Repeat("z", 25)) {
		checkPrefix(t, p, api.Range{}, api.ErrArg)
	}
}

func TestP4_5PrefixEveryByte(t *testing.T) {
	for i, b := range everyByte() {
		for _, begin := range []string{"", "a", "z", "a/b.", strings.Repeat("z", longest-1)} {
			if strings.Contains(keyBytes, b) {
				checkPrefix(t, begin+b, api.Range{From: begin + b, To: begin + string([]byte{byte(i + 1)})}, api.OK)
			} else {
				checkPrefix(t, begin+b, api.Range{}, api.ErrArg)
			}
		}
		checkPrefix(t, strings.Repeat("z", longest)+b, api.Range{}, api.ErrArg)
	}
}

// checkPrefix also requires that the range contains exactly the strings that begin with p.
func checkPrefix(t *testing.T, p string, want api.Range, e api.Errno) {
	t.Helper()
	got, gotE := Prefix(p)
	if got != want || gotE != e {
		t.Fatalf("Prefix(%q) = %q, %d, want %q, %d", p, got, gotE, want, e)
	}
	if e != api.OK {
		return
	}
	if !ValidRange(got) {
		t.Fatalf("Prefix(%q) = %q, which is not valid", p, got)
	}
	texts := []string{"", p, p + "\x00", p + " ", p + "a", p + "~", p + "\xff", p + strings.Repeat("\xff", 40), got.To, got.To + "a"}
	if p != "" {
		texts = append(texts, p[:len(p)-1], p[:len(p)-1]+"\x00", p[:len(p)-1]+"\xff", p[1:], "\x00"+p)
	}
	for _, k := range append(texts, probes()...) {
		if Contains(got, k) != strings.HasPrefix(k, p) {
			t.Fatalf("Prefix(%q) = %q contains %q: %t", p, got, k, Contains(got, k))
		}
	}
}

func TestP4_6Same(t *testing.T) {
	for _, c := range []struct {
		a, b []string
		want bool
	}{
		{nil, nil, true}, {nil, []string{}, true}, {[]string{}, []string{}, true}, {nil, []string{""}, false}, {[]string{}, []string{"a"}, false},
		{[]string{""}, []string{""}, true}, {[]string{""}, []string{"", ""}, false}, {[]string{"a"}, []string{"a"}, true},
		{[]string{"a"}, []string{"b"}, false}, {[]string{"a"}, []string{"A"}, false}, {[]string{"a"}, []string{"a "}, false},
		{[]string{"a"}, []string{""}, false},
		{[]string{"a", "b"}, []string{"a", "b"}, true}, {[]string{"a", "b"}, []string{"b", "a"}, false},
		{[]string{"a", "b"}, []string{"a", "c"}, false}, {[]string{"a", "b"}, []string{"c", "b"}, false},
		{[]string{"a", "b"}, []string{"a"}, false}, {[]string{"a", "b"}, []string{"b"}, false},
		{[]string{"a", "b"}, []string{"ab"}, false}, {[]string{"a", "b"}, []string{"a", "b", "b"}, false},
		{[]string{"b", "a", "b"}, []string{"b", "a", "b"}, true}, {[]string{"b", "a", "b"}, []string{"a", "b", "b"}, false},
		{[]string{"a", "a"}, []string{"a", "a"}, true}, {[]string{"a", "a"}, []string{"a"}, false},
		{[]string{"\xff", "no key", "A"}, []string{"\xff", "no key", "A"}, true},
		{[]string{"\xff"}, []string{"\xfe"}, false},
		{[]string{strings.Repeat("a", 100)}, []string{strings.Repeat("a", 100)}, true},
		{[]string{strings.Repeat("a", 100)}, []string{strings.Repeat("a", 99)}, false},
	} {
		if Same(c.a, c.b) != c.want || Same(c.b, c.a) != c.want {
			t.Errorf("Same(%q, %q) = %t, the other way round %t", c.a, c.b, Same(c.a, c.b), Same(c.b, c.a))
		}
	}
}

func TestP4_6SameUsesNothingBeyondTheLength(t *testing.T) {
	a, b := []string{"a", "b", "c"}, []string{"a", "b", "d"}
	if !Same(a[:2], b[:2]) || !Same(a[:0], b[2:2]) || !Same(a[:1:3], b[:1:1]) || Same(a, b) {
		t.Errorf("Same does not compare %q and %q up to their lengths", a, b)
	}
	if !slices.Equal(a, []string{"a", "b", "c"}) || !slices.Equal(b, []string{"a", "b", "d"}) {
		t.Errorf("Same changes its arguments to %q and %q", a, b)
	}
}

func TestP4_7SplitLosesNothing(t *testing.T) {
	texts := probes()
	splits := 0
	for _, r := range rangesOf(goodBounds()) {
		for _, at := range goodBounds() {
			low, high, e := Split(r, at)
			if e != api.OK {
				continue
			}
			splits++
			if !Covers(r, low) || !Covers(r, high) {
				t.Fatalf("%q does not cover its parts %q and %q", r, low, high)
			}
			for _, k := range texts {
				inLow, inHigh := Contains(low, k), Contains(high, k)
				if inLow && inHigh || (inLow || inHigh) != Contains(r, k) {
					t.Fatalf("%q is contained in %q: %t, in its part %q: %t, in its part %q: %t", k, r, Contains(r, k), low, inLow, high, inHigh)
				}
			}
			if _, ok := Intersect(low, high); ok {
				t.Fatalf("the parts %q and %q have something in common", low, high)
			}
		}
	}
	// Any three bounds in ascending order, and any two with an empty To, are a range and the place of a split.
	n := len(goodBounds())
	if want := n*(n-1)*(n-2)/6 + n*(n-1)/2; splits != want {
		t.Errorf("%d splits instead of %d", splits, want)
	}
}

// contents tells for each range, valid or not, which texts it contains.
func contents(ranges []api.Range, texts []string) [][]bool {
	lists := make([][]bool, len(ranges))
	for i, r := range ranges {
		lists[i] = make([]bool, len(texts))
		for j, k := range texts {
			lists[i][j] = Contains(r, k)
		}
	}
	return lists
}

func TestP4_7Covers(t *testing.T) {
	ranges, texts := allRanges(), probes()
	inside := contents(ranges, texts)
	for i, a := range ranges {
		for j, b := range ranges {
			// The texts hold a bound that tells the ranges apart if a does not contain all of b.
			all := true
			for n := range texts {
				all = all && (inside[i][n] || !inside[j][n])
			}
			if Covers(a, b) != all {
				t.Fatalf("Covers(%q, %q) = %t, but it contains all: %t", a, b, Covers(a, b), all)
			}
		}
	}
}

func TestP4_7Intersect(t *testing.T) {
	ranges, texts := allRanges(), probes()
	inside := contents(ranges, texts)
	for i, a := range ranges {
		for j, b := range ranges {
			r, ok := Intersect(a, b)
			for n, k := range texts {
				if both := inside[i][n] && inside[j][n]; both != (ok && Contains(r, k)) {
					t.Fatalf("Intersect(%q, %q) = %q, %t, but %q is contained in both: %t", a, b, r, ok, k, both)
				}
			}
			if ok && (!Covers(a, r) || !Covers(b, r)) {
				t.Fatalf("Intersect(%q, %q) = %q, which they do not cover", a, b, r)
			}
		}
	}
}

func TestP4_7Prefix(t *testing.T) {
	for _, p := range []string{"ab", "a/z", "z"} {
		r, _ := Prefix(p)
		longer, _ := Prefix(p + "z")
		if both, ok := Intersect(r, longer); !Covers(r, longer) || Covers(longer, r) || both != longer || !ok {
			t.Errorf("Prefix(%q) = %q and Prefix(%q) = %q have %q in common", p, r, p+"z", longer, both)
		}
	}
}

func TestP0_4NewMemory(t *testing.T) {
	r := api.Range{From: "b", To: "d"}
	at := "c"
	low, high, _ := Split(r, at)
	both, _ := Intersect(r, r)
	prefix, _ := Prefix(at)
	for _, c := range []struct{ got, argument string }{
		{low.From, r.From}, {low.To, at}, {high.From, at}, {high.To, r.To}, {both.From, r.From}, {both.To, r.To}, {prefix.From, at},
	} {
		if c.got != c.argument || unsafe.StringData(c.got) == unsafe.StringData(c.argument) {
			t.Errorf("%q is in the memory of the argument %q", c.got, c.argument)
		}
	}
}
