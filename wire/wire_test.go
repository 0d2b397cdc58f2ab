package wire

import (
	"clockwork/api"
	"encoding/binary"
	"fmt"
	"math"
	"slices"
	"strings"
	"testing"
	"unsafe"
)

// numbers are unsigned integers at both ends of each length of a varint, around all powers of two, and of all sizes without a pattern.
func numbers() []uint64 {
	list := []uint64{0, 1, 2, 126, 127, 128, 129, 300, 1<<63 - 1, 1 << 63, 1<<64 - 1}
	for shift := range 64 {
		list = append(list, 1<<shift-1, 1<<shift, 1<<shift+1, -(1 << shift), -(1<<shift)-1)
	}
	x := uint64(1)
	for i := range 2000 {
		x ^= x << 13
		x ^= x >> 7
		x ^= x << 17
		list = append(list, x>>(i%64))
	}
	return list
}

// integers are the same bits, read as signed integers.
func integers() []int64 {
	var list []int64
	for _, u := range numbers() {
		list = append(list, int64(u))
	}
	return list
}

// texts are strings with the lengths at which the varint of the length changes, and with bytes that mean something elsewhere.
func texts() []string {
	list := []string{"ab", "\x00", "\x80", "\xff\xff", "a\x00b", "é", "\xc3", "\x02ab"}
	for _, n := range []int{0, 1, 2, 63, 64, 126, 127, 128, 129, 255, 256, 16383, 16384, 16385} {
		list = append(list, strings.Repeat("x", n), strings.Repeat("\x80", n))
	}
	return list
}

// followers are bytes that may stand behind an encoding.
func followers() []string {
	return []string{"", "\x00", "\x01", "\x7f", "\x80", "\x80\x00", "\xff", "ab", strings.Repeat("\xff", 20)}
}

// taken is the result of a Take function.
type taken struct {
	value any
	next  int
	e     api.Errno
}

// String cuts long texts, and shows bytes that are no text.
func (r taken) String() string {
	return fmt.Sprintf("%.60s, %d, %d", fmt.Sprintf("%#v", r.value), r.next, r.e)
}

// take is a Take function with its limit, if it has one.
type take struct {
	name string
	f    func(s string, at int) taken
	// encode is the function that f inverts.
	encode func(value any) string
	zero   any
}

func takeUint() take {
	return take{"TakeUint", func(s string, at int) taken {
		v, next, e := TakeUint(s, at)
		return taken{v, next, e}
	}, func(v any) string { return Uint(v.(uint64)) }, uint64(0)}
}

func takeInt() take {
	return take{"TakeInt", func(s string, at int) taken {
		v, next, e := TakeInt(s, at)
		return taken{v, next, e}
	}, func(v any) string { return Int(v.(int64)) }, int64(0)}
}

func takeBool() take {
	return take{"TakeBool", func(s string, at int) taken {
		v, next, e := TakeBool(s, at)
		return taken{v, next, e}
	}, func(v any) string { return Bool(v.(bool)) }, false}
}

func takeText(most int) take {
	return take{"TakeText", func(s string, at int) taken {
		v, next, e := TakeText(s, at, most)
		return taken{v, next, e}
	}, func(v any) string { return Text(v.(string)) }, ""}
}

func takeCount(most int) take {
	return take{"TakeCount", func(s string, at int) taken {
		v, next, e := TakeCount(s, at, most)
		return taken{v, next, e}
	}, func(v any) string { return Uint(uint64(v.(int))) }, 0}
}

// allTakes are the five Take functions, with limits that are never reached.
func allTakes() []take {
	return []take{takeUint(), takeInt(), takeBool(), takeText(math.MaxInt), takeCount(math.MaxInt)}
}

func (f take) check(t *testing.T, s string, at int, value any, next int) {
	t.Helper()
	if got, want := f.f(s, at), (taken{value, next, api.OK}); got != want {
		t.Fatalf("%s(%.40q, %d) = %v, want %v", f.name, s, at, got, want)
	}
}

// checkError requires an error, with which the value and the offset are zero.
func (f take) checkError(t *testing.T, s string, at int, e api.Errno) {
	t.Helper()
	if got, want := f.f(s, at), (taken{f.zero, 0, e}); got != want {
		t.Fatalf("%s(%.40q, %d) = %v, want %v", f.name, s, at, got, want)
	}
}

func TestP2_1Uint(t *testing.T) {
	for _, c := range []struct {
		u    uint64
		want string
	}{
		{0, "\x00"},
		{1, "\x01"},
		{127, "\x7f"},
		{128, "\x80\x01"},
		{129, "\x81\x01"},
		{300, "\xac\x02"},
		{16383, "\xff\x7f"},
		{16384, "\x80\x80\x01"},
		{1<<63 - 1, "\xff\xff\xff\xff\xff\xff\xff\xff\x7f"},
		{1 << 63, "\x80\x80\x80\x80\x80\x80\x80\x80\x80\x01"},
		{1<<64 - 1, "\xff\xff\xff\xff\xff\xff\xff\xff\xff\x01"},
	} {
		if got := Uint(c.u); got != c.want {
			t.Errorf("Uint(%d) = %q, want %q", c.u, got, c.want)
		}
	}
	for _, u := range numbers() {
		if got, want := Uint(u), string(binary.AppendUvarint(nil, u)); got != want {
			t.Fatalf("Uint(%d) = %q, want %q", u, got, want)
		}
	}
}

func TestP2_1Int(t *testing.T) {
	for _, c := range []struct {
		n    int64
		want string
	}{
		{0, "\x00"},
		{-1, "\x01"},
		{1, "\x02"},
		{-2, "\x03"},
		{2, "\x04"},
		{-3, "\x05"},
		{63, "\x7e"},
		{-64, "\x7f"},
		{64, "\x80\x01"},
		{-65, "\x81\x01"},
		{math.MaxInt64, "\xfe\xff\xff\xff\xff\xff\xff\xff\xff\x01"},
		{math.MinInt64, "\xff\xff\xff\xff\xff\xff\xff\xff\xff\x01"},
	} {
		if got := Int(c.n); got != c.want {
			t.Errorf("Int(%d) = %q, want %q", c.n, got, c.want)
		}
	}
	for _, n := range integers() {
		if got, want := Int(n), string(binary.AppendVarint(nil, n)); got != want {
			t.Fatalf("Int(%d) = %q, want %q", n, got, want)
		}
	}
}

func TestP2_1Bool(t *testing.T) {
	if got := Bool(true); got != "\x01" {
		t.Errorf("Bool(true) = %q", got)
	}
	if got := Bool(false); got != "\x00" {
		t.Errorf("Bool(false) = %q", got)
	}
}

func TestP2_1Text(t *testing.T) {
	for _, c := range []struct{ s, want string }{
		{"", "\x00"},
		{"ab", "\x02ab"},
		{"\x00", "\x01\x00"},
		{"é", "\x02\xc3\xa9"},
		{"\xff", "\x01\xff"},
		{strings.Repeat("x", 127), "\x7f" + strings.Repeat("x", 127)},
		{strings.Repeat("x", 128), "\x80\x01" + strings.Repeat("x", 128)},
		{strings.Repeat("y", 16384), "\x80\x80\x01" + strings.Repeat("y", 16384)},
	} {
		if got := Text(c.s); got != c.want {
			t.Errorf("Text(%.40q) = %.40q, want %.40q", c.s, got, c.want)
		}
	}
}

func TestP2_2Varints(t *testing.T) {
	for _, c := range []struct {
		s    string
		at   int
		want uint64
		next int
	}{
		{"\x00", 0, 0, 1},
		{"\x00\x00", 0, 0, 1},
		{"\x00\x00", 1, 0, 2},
		{"\x7f", 0, 127, 1},
		{"\x80\x01", 0, 128, 2},
		{"\x80\x01", 1, 1, 2},
		{"\xac\x02", 0, 300, 2},
		{"ab\xac\x02cd", 2, 300, 4},
		{"\x80\x80\x01", 0, 16384, 3},
		{"\xff\xff\xff\xff\xff\xff\xff\xff\x7f", 0, 1<<63 - 1, 9},
		{"\x80\x80\x80\x80\x80\x80\x80\x80\x80\x01", 0, 1 << 63, 10},
		{"\xff\xff\xff\xff\xff\xff\xff\xff\xff\x01", 0, 1<<64 - 1, 10},
		{"\xff\xff\xff\xff\xff\xff\xff\xff\xff\x01\xff\xff", 0, 1<<64 - 1, 10},
	} {
		takeUint().check(t, c.s, c.at, c.want, c.next)
	}
}

func TestP2_2Truncated(t *testing.T) {
	for _, s := range []string{"", "\x80", "\xff", "\x80\x80", strings.Repeat("\x80", 9), strings.Repeat("\xff", 9)} {
		for _, before := range []string{"", "a", "\x00", "\x80\x80"} {
			takeUint().checkError(t, before+s, len(before), api.ErrTruncated)
		}
	}
	for _, u := range numbers() {
		s := Uint(u)
		for end := range len(s) {
			takeUint().checkError(t, s[:end], 0, api.ErrTruncated)
		}
	}
}

func TestP2_2TenthByte(t *testing.T) {
	for _, nine := range []string{strings.Repeat("\x80", 9), strings.Repeat("\xff", 9), "\xac\x80\x81\x82\x83\x84\x85\x86\x87"} {
		low := uint64(0)
		for i := range 9 {
			low += uint64(nine[i]-128) << (7 * i)
		}
		for c := range 256 {
			s := nine + string([]byte{byte(c)})
			for _, after := range followers() {
				if c == 1 {
					takeUint().check(t, s+after, 0, 1<<63+low, 10)
				} else {
					takeUint().checkError(t, s+after, 0, api.ErrSyntax)
				}
			}
		}
	}
}

func TestP2_2LastByteZero(t *testing.T) {
	for n := range 10 {
		for _, b := range []string{"\x80", "\x81", "\xff"} {
			for _, after := range followers() {
				s := strings.Repeat(b, n) + "\x00" + after
				if n == 0 {
					takeUint().check(t, s, 0, uint64(0), 1)
				} else {
					takeUint().checkError(t, s, 0, api.ErrSyntax)
				}
				// The first byte counts from the offset, not from the beginning of the string.
				takeUint().check(t, s, n, uint64(0), n+1)
			}
		}
	}
}

// TestP2_2TwoBytes takes all strings of up to two bytes.
func TestP2_2TwoBytes(t *testing.T) {
	for first := range 256 {
		one := string([]byte{byte(first)})
		if first < 128 {
			takeUint().check(t, one, 0, uint64(first), 1)
		} else {
			takeUint().checkError(t, one, 0, api.ErrTruncated)
		}
		for second := range 256 {
			two := one + string([]byte{byte(second)})
			switch {
			case first < 128:
				takeUint().check(t, two, 0, uint64(first), 1)
			case second == 0:
				takeUint().checkError(t, two, 0, api.ErrSyntax)
			case second < 128:
				takeUint().check(t, two, 0, uint64(second*128+first-128), 2)
			default:
				takeUint().checkError(t, two, 0, api.ErrTruncated)
			}
		}
	}
}

// checkOffsets takes from offsets outside of strings, which is the first error, and from their ends.
func checkOffsets(t *testing.T, f take) {
	t.Helper()
	for _, s := range []string{"", "\x00", "\x01a", "\x02", "\x80", "\x80\x00", "abc"} {
		for _, at := range []int{math.MinInt, math.MinInt32, -2, -1, len(s) + 1, len(s) + 2, math.MaxInt32, math.MaxInt} {
			f.checkError(t, s, at, api.ErrArg)
		}
		f.checkError(t, s, len(s), api.ErrTruncated)
	}
}

func TestP2_2Offsets(t *testing.T) {
	checkOffsets(t, takeUint())
}

func TestP2_3Int(t *testing.T) {
	for _, c := range []struct {
		s    string
		at   int
		want int64
		next int
	}{
		{"\x00", 0, 0, 1},
		{"\x01", 0, -1, 1},
		{"\x02", 0, 1, 1},
		{"\x03", 0, -2, 1},
		{"\x04", 0, 2, 1},
		{"\x05", 0, -3, 1},
		{"a\x05b", 1, -3, 2},
		{"\x7f", 0, -64, 1},
		{"\x80\x01", 0, 64, 2},
		{"\xfe\xff\xff\xff\xff\xff\xff\xff\xff\x01", 0, math.MaxInt64, 10},
		{"\xff\xff\xff\xff\xff\xff\xff\xff\xff\x01", 0, math.MinInt64, 10},
		{"\xff\xff\xff\xff\xff\xff\xff\xff\x7f", 0, -1 << 62, 9},
	} {
		takeInt().check(t, c.s, c.at, c.want, c.next)
	}
	for _, n := range integers() {
		takeInt().check(t, string(binary.AppendVarint(nil, n)), 0, n, len(binary.AppendVarint(nil, n)))
	}
}

// badVarints are strings without a varint at their beginning, with the error that TakeUint returns.
func badVarints() map[string]api.Errno {
	return map[string]api.Errno{
		"":                                     api.ErrTruncated,
		"\x80":                                 api.ErrTruncated,
		"\xff\xff":                             api.ErrTruncated,
		strings.Repeat("\xff", 9):              api.ErrTruncated,
		"\x80\x00":                             api.ErrSyntax,
		"\x81\x00":                             api.ErrSyntax,
		"\x80\x80\x00ab":                       api.ErrSyntax,
		strings.Repeat("\x80", 9) + "\x00":     api.ErrSyntax,
		strings.Repeat("\xff", 9) + "\x02":     api.ErrSyntax,
		strings.Repeat("\xff", 10):             api.ErrSyntax,
		strings.Repeat("\x80", 9) + "\x81\x01": api.ErrSyntax,
	}
}

func TestP2_3IntErrors(t *testing.T) {
	checkOffsets(t, takeInt())
	for s, e := range badVarints() {
		takeUint().checkError(t, s, 0, e)
		takeInt().checkError(t, s, 0, e)
		takeInt().checkError(t, "\x01"+s, 1, e)
	}
}

func TestP2_3Bool(t *testing.T) {
	checkOffsets(t, takeBool())
	for c := range 256 {
		one := string([]byte{byte(c)})
		for _, after := range followers() {
			for _, before := range []string{"", "\x00", "\x01", "\x80"} {
				if c < 2 {
					takeBool().check(t, before+one+after, len(before), c == 1, len(before)+1)
				} else {
					takeBool().checkError(t, before+one+after, len(before), api.ErrSyntax)
				}
			}
		}
	}
}

func TestP2_4Text(t *testing.T) {
	for _, c := range []struct {
		s        string
		at, most int
		want     string
		next     int
	}{
		{"\x00", 0, 0, "", 1},
		{"\x00abc", 0, 0, "", 1},
		{"\x02ab", 0, 2, "ab", 3},
		{"\x02ab", 0, 3, "ab", 3},
		{"\x02ab", 0, math.MaxInt, "ab", 3},
		{"\x02abc", 0, 2, "ab", 3},
		{"xy\x02abc", 2, 2, "ab", 5},
		{"\x02\x00\x80", 0, 2, "\x00\x80", 3},
	} {
		takeText(c.most).check(t, c.s, c.at, c.want, c.next)
	}
	for _, s := range texts() {
		encoded := Text(s)
		takeText(len(s)).check(t, encoded, 0, s, len(encoded))
		takeText(len(s)).check(t, "\x80\x80"+encoded+"z", 2, s, len(encoded)+2)
		takeText(len(s)-1).checkError(t, encoded, 0, api.ErrLimit)
		for _, end := range []int{len(encoded) - len(s), len(encoded) - 1} {
			if end < len(encoded) && s != "" {
				takeText(len(s)).checkError(t, encoded[:end], 0, api.ErrTruncated)
				takeText(len(s)-1).checkError(t, encoded[:end], 0, api.ErrLimit)
			}
		}
	}
}

func TestP2_4Count(t *testing.T) {
	for _, c := range []struct {
		s              string
		at, most       int
		want, wantNext int
	}{
		{"\x00", 0, 0, 0, 1},
		{"\x00", 0, 9, 0, 1},
		{"\x00ab", 0, 0, 0, 1},
		{"\x02ab", 0, 2, 2, 1},
		{"\x02abc", 0, 2, 2, 1},
		{"\x02abc", 0, math.MaxInt, 2, 1},
		{"\x7f\x7f\x01a", 2, 1, 1, 3},
		{"\x80\x01" + strings.Repeat("a", 128), 0, 128, 128, 2},
		{"\x80\x01" + strings.Repeat("a", 200), 0, 300, 128, 2},
	} {
		takeCount(c.most).check(t, c.s, c.at, c.want, c.wantNext)
	}
	takeCount(128).checkError(t, "\x80\x01"+strings.Repeat("a", 127), 0, api.ErrTruncated)
	takeCount(127).checkError(t, "\x80\x01"+strings.Repeat("a", 128), 0, api.ErrLimit)
	takeCount(3).checkError(t, "\x01", 0, api.ErrTruncated)
	takeCount(3).checkError(t, "aaa\x01", 3, api.ErrTruncated)
}

// limited are the two functions with a limit.
func limited(most int) []take {
	return []take{takeText(most), takeCount(most)}
}

func TestP2_4Limits(t *testing.T) {
	for _, c := range []struct {
		s    string
		most int
		e    api.Errno
	}{
		{"\x00", -1, api.ErrLimit},
		{"\x00", math.MinInt, api.ErrLimit},
		{"\x02ab", -1, api.ErrLimit},
		{"\x02ab", -2, api.ErrLimit},
		{"\x02ab", math.MinInt, api.ErrLimit},
		{"\x02ab", 0, api.ErrLimit},
		{"\x02ab", 1, api.ErrLimit},
		{"\x01", 0, api.ErrLimit},
		{"\x03ab", 2, api.ErrLimit},
		{"\x03ab", 3, api.ErrTruncated},
		{"\x03ab", math.MaxInt, api.ErrTruncated},
		{"\x01", 1, api.ErrTruncated},
		{Uint(1<<32+2) + "abc", 5, api.ErrLimit},
		{Uint(1<<32+2) + "abc", 1<<32 + 2, api.ErrTruncated},
		{Uint(math.MaxInt64) + "abc", math.MaxInt64 - 1, api.ErrLimit},
		{Uint(math.MaxInt64) + "abc", math.MaxInt64, api.ErrTruncated},
		{Uint(1<<63) + "abc", math.MaxInt64, api.ErrLimit},
		{Uint(1<<63+2) + "abc", math.MaxInt64, api.ErrLimit},
		{Uint(1<<64-1) + "abc", math.MaxInt64, api.ErrLimit},
		{Uint(1<<64-1) + "abc", -1, api.ErrLimit},
	} {
		for _, f := range limited(c.most) {
			f.checkError(t, c.s, 0, c.e)
			f.checkError(t, "ab"+c.s, 2, c.e)
		}
	}
}

// TestP2_4ErrorsOfTakeUint requires that these come before the limit.
func TestP2_4ErrorsOfTakeUint(t *testing.T) {
	for _, most := range []int{math.MinInt, -1, 0, 1, math.MaxInt} {
		for _, f := range limited(most) {
			checkOffsets(t, f)
			for s, e := range badVarints() {
				f.checkError(t, s, 0, e)
				f.checkError(t, "\x01"+s, 1, e)
			}
		}
	}
}

func TestP2_4NewMemory(t *testing.T) {
	s := Text("ab")
	got, _, _ := TakeText(s, 0, 2)
	if got != "ab" || unsafe.StringData(got) == unsafe.StringData(s[1:]) {
		t.Errorf("TakeText returns %q in the memory of its argument", got)
	}
}

// checkRoundTrip takes a value from its encoding, whatever stands before and behind it, and requires an error for each of its beginnings.
func checkRoundTrip(t *testing.T, f take, value any) {
	t.Helper()
	encoded := f.encode(value)
	for _, before := range []string{"", "\x00", "\x80\x80", "abc"} {
		for _, after := range followers() {
			f.check(t, before+encoded+after, len(before), value, len(before)+len(encoded))
		}
	}
	for end := range min(len(encoded), 20) {
		f.checkError(t, encoded[:end], 0, api.ErrTruncated)
	}
}

func TestP2_5RoundTrips(t *testing.T) {
	for _, u := range numbers() {
		checkRoundTrip(t, takeUint(), u)
		checkRoundTrip(t, takeInt(), int64(u))
	}
	for _, s := range texts() {
		checkRoundTrip(t, takeText(math.MaxInt), s)
		checkRoundTrip(t, takeText(len(s)), s)
	}
	checkRoundTrip(t, takeBool(), true)
	checkRoundTrip(t, takeBool(), false)
}

// TestP2_5CountRoundTrips has a test of its own because a count needs as many bytes behind it.
func TestP2_5CountRoundTrips(t *testing.T) {
	for _, n := range []int{0, 1, 127, 128, 16383, 16384} {
		encoded := Uint(uint64(n))
		for _, more := range []string{"", "\x00", "\xff"} {
			s := "\x80" + encoded + strings.Repeat("\xff", n) + more
			takeCount(n).check(t, s, 1, n, 1+len(encoded))
			takeCount(math.MaxInt).check(t, s, 1, n, 1+len(encoded))
		}
	}
}

func TestP2_5NoPrefix(t *testing.T) {
	var uints, ints, strs []string
	for _, u := range numbers() {
		uints = append(uints, Uint(u))
		ints = append(ints, Int(int64(u)))
	}
	for _, s := range texts() {
		strs = append(strs, Text(s))
	}
	for _, list := range [][]string{uints, ints, strs, {Bool(false), Bool(true)}} {
		// In ascending order, a string that begins with another one follows it with only such strings between them.
		slices.Sort(list)
		list = slices.Compact(list)
		for i := range len(list) - 1 {
			if strings.HasPrefix(list[i+1], list[i]) {
				t.Errorf("%.40q is a prefix of %.40q", list[i], list[i+1])
			}
		}
	}
}

// shortStrings are all strings of at most five bytes from a few that occur in encodings and at their limits.
func shortStrings() []string {
	const alphabet = "\x00\x01\x02\x03\x7f\x80\x81\xff"
	list := []string{""}
	last := list
	for range 5 {
		var longer []string
		for _, s := range last {
			for i := range len(alphabet) {
				longer = append(longer, s+alphabet[i:i+1])
			}
		}
		list = append(list, longer...)
		last = longer
	}
	return list
}

// longStrings are varints of nine to eleven bytes, most of them invalid.
func longStrings() []string {
	var list []string
	for _, s := range shortStrings() {
		if len(s) <= 3 {
			list = append(list, strings.Repeat("\x80", 8)+s, strings.Repeat("\xff", 8)+s)
		}
	}
	return list
}

// TestP2_5OneEncoding requires that only results of the encoding functions are taken.
func TestP2_5OneEncoding(t *testing.T) {
	takes := append(allTakes(), takeText(1), takeCount(1), takeText(-1), takeCount(-1))
	for _, s := range append(shortStrings(), longStrings()...) {
		for _, f := range takes {
			got := f.f(s, 0)
			if got.e != api.OK {
				f.checkError(t, s, 0, got.e)
			} else if encoded := f.encode(got.value); encoded != s[:got.next] {
				t.Fatalf("%s(%q, 0) = %v, which is encoded as %q", f.name, s, got, encoded)
			}
		}
	}
}

// TestP2_5OnlyFromOffset requires that the bytes before the offset make no difference.
func TestP2_5OnlyFromOffset(t *testing.T) {
	takes := append(allTakes(), takeText(1), takeCount(1))
	for _, s := range append(shortStrings(), longStrings()...) {
		for _, f := range takes {
			want := f.f(s, 0)
			for _, before := range []string{"\x00", "\x80", "\xff\xff\x01", strings.Repeat("\x80", 12)} {
				if want.e == api.OK {
					f.check(t, before+s, len(before), want.value, len(before)+want.next)
				} else {
					f.checkError(t, before+s, len(before), want.e)
				}
			}
		}
	}
}
