package checksum

import (
	"clockwork/api"
	"encoding/binary"
	"fmt"
	"hash/crc32"
	"hash/fnv"
	"math/big"
	"strings"
	"testing"
	"unsafe"
)

const (
	basisHash = uint64(14695981039346656037)
	lastHash  = uint64(1<<64 - 1)
	lastSum   = uint32(0xffffffff)
)

// texts are strings of several lengths, with bytes at both ends of their range, and with bytes that follow no obvious pattern.
func texts() []string {
	list := []string{"", "a", "ab", "abc", "abcd", "123456789", "é", "\x00", "\xff", "\x00\x00", "\xff\xff", "\x00\xff", "\xff\x00", "\x7f\x80", strings.Repeat("\x00", 33), strings.Repeat("\xff", 33)}
	all := make([]byte, 256)
	for i := range all {
		all[i] = byte(i)
	}
	list = append(list, string(all))
	x := uint64(1)
	for n := range 40 {
		mixed := make([]byte, n)
		for i := range mixed {
			x ^= x << 13
			x ^= x >> 7
			x ^= x << 17
			mixed[i] = byte(x >> 32)
		}
		list = append(list, string(mixed))
	}
	return list
}

// hashes are numbers at the ends of their range, the basis, all powers of two with their neighbors, and numbers of all sizes without a pattern.
func hashes() []uint64 {
	list := []uint64{0, 1, 255, basisHash, 0x0123456789abcdef, 0xfedcba9876543210, lastHash - 1, lastHash}
	for shift := range 64 {
		list = append(list, 1<<shift-1, 1<<shift, 1<<shift+1, -(1 << shift))
	}
	x := uint64(1)
	for i := range 200 {
		x ^= x << 13
		x ^= x >> 7
		x ^= x << 17
		list = append(list, x>>(i%64))
	}
	return list
}

// sums are checksums of the same kinds.
func sums() []uint32 {
	list := []uint32{0, 1, 255, 0xe3069283, 0x82f63b78, lastSum - 1, lastSum}
	for _, h := range hashes() {
		list = append(list, uint32(h))
	}
	return list
}

// exactExtend computes Extend with big integers, and reduces only the last result.
func exactExtend(h uint64, s string) uint64 {
	exact := new(big.Int).SetUint64(h)
	low := new(big.Int).SetUint64(lastHash)
	for i := range len(s) {
		exact.Xor(exact, big.NewInt(int64(s[i])))
		exact.Mul(exact, big.NewInt(1099511628211))
	}
	return exact.And(exact, low).Uint64()
}

func TestP3_1Extend(t *testing.T) {
	for _, c := range []struct {
		h    uint64
		s    string
		want uint64
	}{
		{0, "", 0},
		{0, "\x00", 0},
		{0, "\x00\x00", 0},
		{0, "\x01", 1099511628211},
		{0, "\xff", 0x0000ff000001b14d},
		{0, "foobar", 0x765104e111a7551d},
		{basisHash, "", basisHash},
		{basisHash, "\x00", 0xaf63bd4c8601b7df},
		{basisHash, "\xff", 0xaf64724c8602eb6e},
		{basisHash, "a", 0xaf63dc4c8601ec8c},
		{basisHash, "foobar", 0x85944171f73967e8},
		{lastHash, "", lastHash},
		{lastHash, "\x00", 0xfffffefffffffe4d},
		{lastHash, "\xff", 0xfffefffffffe4d00},
		{lastHash, "foobar", 0x84b5fbfdea9d3fc6},
	} {
		if got := Extend(c.h, c.s); got != c.want {
			t.Errorf("Extend(%#x, %q) = %#x, want %#x", c.h, c.s, got, c.want)
		}
	}
	for _, s := range texts() {
		for _, h := range hashes() {
			if got, want := Extend(h, s), exactExtend(h, s); got != want {
				t.Fatalf("Extend(%#x, %.40q) = %#x, want %#x", h, s, got, want)
			}
		}
	}
}

func TestP3_1FNV(t *testing.T) {
	for _, c := range []struct {
		s    string
		want uint64
	}{
		{"", 14695981039346656037},
		{"a", 0xaf63dc4c8601ec8c},
		{"\x00", 0xaf63bd4c8601b7df},
		{"\xff", 0xaf64724c8602eb6e},
		{"foobar", 0x85944171f73967e8},
	} {
		if got := FNV(c.s); got != c.want {
			t.Errorf("FNV(%q) = %#x, want %#x", c.s, got, c.want)
		}
	}
	for _, s := range texts() {
		reference := fnv.New64a()
		reference.Write([]byte(s))
		if got, want := FNV(s), reference.Sum64(); got != want {
			t.Fatalf("FNV(%.40q) = %#x, want %#x", s, got, want)
		}
		if got, want := FNV(s), Extend(basisHash, s); got != want {
			t.Fatalf("FNV(%.40q) = %#x, but Extend of the basis is %#x", s, got, want)
		}
	}
}

func TestP3_2Mix(t *testing.T) {
	for _, c := range []struct{ a, b, want uint64 }{
		{0, 0, 0x88201fb960ff6465},
		{1, 0, 0x392209f14dea4c24},
		{0, 1, 0x692558b056101a44},
		{lastHash, lastHash, 0xd6607508f5a1e855},
		{lastHash, 0, 0x780d5836696931dd},
		{basisHash, 0x0102030405060708, 0x95338115938477b4},
		{0x0102030405060708, basisHash, 0x3de1a5f6f21db9bc},
	} {
		if got := Mix(c.a, c.b); got != c.want {
			t.Errorf("Mix(%#x, %#x) = %#x, want %#x", c.a, c.b, got, c.want)
		}
	}
	for _, a := range hashes() {
		for _, b := range hashes() {
			bytes := binary.LittleEndian.AppendUint64(binary.LittleEndian.AppendUint64(nil, a), b)
			reference := fnv.New64a()
			reference.Write(bytes)
			if got, want := Mix(a, b), reference.Sum64(); got != want {
				t.Fatalf("Mix(%#x, %#x) = %#x, want %#x", a, b, got, want)
			}
		}
	}
}

func TestP3_3Update(t *testing.T) {
	for _, c := range []struct {
		sum  uint32
		s    string
		want uint32
	}{
		{0, "", 0},
		{0, "\x00", 0x527d5351},
		{0, "\xff", 0xff000000},
		{0, "\xff\xff\xff\xff", lastSum},
		{1, "", 1},
		{1, "a", 0x33bbc033},
		{0x80000000, "123456789", 0xff0e2555},
		{0xe3069283, "", 0xe3069283},
		{0xe3069283, "123456789", 0xa86c53f4},
		{lastSum, "", lastSum},
		{lastSum, "\x00", lastSum},
		{lastSum, "\x00\x00\x00\x00", lastSum},
		{lastSum, "\xff", 0x5282acae},
		{lastSum, "123456789", 0xa71c05df},
	} {
		if got := Update(c.sum, c.s); got != c.want {
			t.Errorf("Update(%#x, %q) = %#x, want %#x", c.sum, c.s, got, c.want)
		}
	}
	table := crc32.MakeTable(crc32.Castagnoli)
	for _, s := range texts() {
		for _, sum := range sums() {
			if got, want := Update(sum, s), crc32.Update(sum, table, []byte(s)); got != want {
				t.Fatalf("Update(%#x, %.40q) = %#x, want %#x", sum, s, got, want)
			}
		}
	}
}

func TestP3_3CRC(t *testing.T) {
	for _, c := range []struct {
		s    string
		want uint32
	}{
		{"", 0},
		{"a", 0xc1d04330},
		{"\x00", 0x527d5351},
		{"\xff", 0xff000000},
		{"123456789", 0xe3069283},
		{strings.Repeat("\x00", 32), 0x8a9136aa},
		{strings.Repeat("\xff", 32), 0x62a8ab43},
	} {
		if got := CRC(c.s); got != c.want {
			t.Errorf("CRC(%q) = %#x, want %#x", c.s, got, c.want)
		}
	}
	table := crc32.MakeTable(crc32.Castagnoli)
	for _, s := range texts() {
		if got, want := CRC(s), crc32.Checksum([]byte(s), table); got != want {
			t.Fatalf("CRC(%.40q) = %#x, want %#x", s, got, want)
		}
		if got, want := CRC(s), Update(0, s); got != want {
			t.Fatalf("CRC(%.40q) = %#x, but Update of 0 is %#x", s, got, want)
		}
	}
}

func checkOpen(t *testing.T, s, want string) {
	t.Helper()
	if got, e := Open(s); got != want || e != api.OK {
		t.Fatalf("Open(%.40q) = %.40q, %d, want %.40q, OK", s, got, e, want)
	}
}

// checkClosed requires an error, with which the string is empty.
func checkClosed(t *testing.T, s string, want api.Errno) {
	t.Helper()
	if got, e := Open(s); got != "" || e != want {
		t.Fatalf("Open(%.40q) = %.40q, %d, want an empty string, %d", s, got, e, want)
	}
}

func TestP3_4Seal(t *testing.T) {
	for _, c := range []struct{ s, want string }{
		{"", "\x00\x00\x00\x00"},
		{"\x00", "\x00\x51\x53\x7d\x52"},
		{"\xff", "\xff\x00\x00\x00\xff"},
		{"a", "a\x30\x43\xd0\xc1"},
		{"\xff\xff\xff\xff", "\xff\xff\xff\xff\xff\xff\xff\xff"},
		{"123456789", "123456789\x83\x92\x06\xe3"},
	} {
		if got := Seal(c.s); got != c.want {
			t.Errorf("Seal(%q) = %q, want %q", c.s, got, c.want)
		}
		checkOpen(t, c.want, c.s)
	}
	table := crc32.MakeTable(crc32.Castagnoli)
	for _, s := range texts() {
		want := s + string(binary.LittleEndian.AppendUint32(nil, crc32.Checksum([]byte(s), table)))
		if got := Seal(s); got != want {
			t.Fatalf("Seal(%.40q) = %.60q, want %.60q", s, got, want)
		}
		checkOpen(t, want, s)
	}
}

// TestP3_4Truncated opens strings of less than four bytes, some of which are the beginning or the end of a checksum.
func TestP3_4Truncated(t *testing.T) {
	for _, b := range []string{"\x00", "\xff", "a", "\x83"} {
		for n := range 4 {
			checkClosed(t, strings.Repeat(b, n), api.ErrTruncated)
		}
	}
	for _, s := range []string{"abc", "\x92\x06\xe3", "\x01\x02", "é"} {
		checkClosed(t, s, api.ErrTruncated)
	}
}

// TestP3_4FourBytes opens strings of four bytes, of which only the four bytes of the checksum 0 are sealed.
func TestP3_4FourBytes(t *testing.T) {
	checkOpen(t, "\x00\x00\x00\x00", "")
	for _, s := range []string{"\xff\xff\xff\xff", "abcd", "\x83\x92\x06\xe3", "\x01\x00\x00\x00", "\x00\x00\x00\x01", "\x00\x00\x00\x80"} {
		checkClosed(t, s, api.ErrChecksum)
	}
}

func TestP3_4Checksum(t *testing.T) {
	for _, s := range []string{
		"123456789",
		"123456789\xe3\x06\x92\x83",
		"12345678:\x83\x92\x06\xe3",
		"123456789\x83\x92\x06\xe3\x00",
		"\x00123456789\x83\x92\x06\xe3",
		"23456789\x83\x92\x06\xe3",
		"\x83\x92\x06\xe3123456789",
		"\xff\xff\xff\xff\x00\x00\x00\x00",
		"\x00\x00\x00\x00\x00",
		"abcde",
	} {
		checkClosed(t, s, api.ErrChecksum)
	}
	// No beginning of a sealed string is sealed, until it is too short.
	sealed := Seal("123456789")
	for n := range len(sealed) {
		if n < 4 {
			checkClosed(t, sealed[:n], api.ErrTruncated)
		} else {
			checkClosed(t, sealed[:n], api.ErrChecksum)
		}
	}
}

func TestP3_4NewMemory(t *testing.T) {
	sealed := Seal("ab")
	got, _ := Open(sealed)
	if got != "ab" || unsafe.StringData(got) == unsafe.StringData(sealed) {
		t.Errorf("Open returns %q in the memory of its argument", got)
	}
	s := "ab"
	if got := Seal(s); unsafe.StringData(got) == unsafe.StringData(s) {
		t.Errorf("Seal returns %q in the memory of its argument", got)
	}
}

func checkNumber(t *testing.T, s string, want uint64) {
	t.Helper()
	if got, e := Unhex(s); got != want || e != api.OK {
		t.Fatalf("Unhex(%q) = %#x, %d, want %#x, OK", s, got, e, want)
	}
}

// checkNoNumber requires an error, with which the number is 0.
func checkNoNumber(t *testing.T, s string) {
	t.Helper()
	if got, e := Unhex(s); got != 0 || e != api.ErrSyntax {
		t.Fatalf("Unhex(%.40q) = %#x, %d, want 0, ErrSyntax", s, got, e)
	}
}

func TestP3_5Hex(t *testing.T) {
	for _, c := range []struct {
		h    uint64
		want string
	}{
		{0, "0000000000000000"},
		{1, "0000000000000001"},
		{9, "0000000000000009"},
		{10, "000000000000000a"},
		{15, "000000000000000f"},
		{16, "0000000000000010"},
		{255, "00000000000000ff"},
		{1 << 60, "1000000000000000"},
		{10 << 60, "a000000000000000"},
		{0x0123456789abcdef, "0123456789abcdef"},
		{0xfedcba9876543210, "fedcba9876543210"},
		{basisHash, "cbf29ce484222325"},
		{lastHash, "ffffffffffffffff"},
	} {
		if got := Hex(c.h); got != c.want {
			t.Errorf("Hex(%#x) = %q, want %q", c.h, got, c.want)
		}
		checkNumber(t, c.want, c.h)
	}
	for _, h := range hashes() {
		want := fmt.Sprintf("%016x", h)
		if got := Hex(h); got != want {
			t.Fatalf("Hex(%#x) = %q, want %q", h, got, want)
		}
		checkNumber(t, want, h)
	}
}

// TestP3_5EachByte puts every byte at every place.
func TestP3_5EachByte(t *testing.T) {
	for place := range 16 {
		for c := range 256 {
			s := strings.Repeat("0", place) + string([]byte{byte(c)}) + strings.Repeat("0", 15-place)
			shift := 4 * (15 - place)
			switch {
			case c >= '0' && c <= '9':
				checkNumber(t, s, uint64(c-'0')<<shift)
			case c >= 'a' && c <= 'f':
				checkNumber(t, s, uint64(c-'a'+10)<<shift)
			default:
				checkNoNumber(t, s)
			}
		}
	}
}

func TestP3_5Lengths(t *testing.T) {
	for _, digit := range []string{"0", "9", "a", "f"} {
		for n := range 40 {
			if n != 16 {
				checkNoNumber(t, strings.Repeat(digit, n))
			}
		}
	}
	checkNoNumber(t, strings.Repeat("0", 1<<16))
}

func TestP3_5Syntax(t *testing.T) {
	for _, s := range []string{
		"",
		"ff",
		"00000000000000FF",
		"A000000000000000",
		"FEDCBA9876543210",
		"000000000000000g",
		"/000000000000000",
		":000000000000000",
		"`000000000000000",
		"+00000000000000f",
		"-00000000000000f",
		"-000000000000000f",
		"+000000000000000f",
		" 00000000000000f",
		"00000000000000f ",
		"0000000000000 0f",
		" 000000000000000f",
		"000000000000000f\n",
		"00000000000000f\x00",
		"0x000000000000ff",
		"0x00000000000000ff",
		"0000_0000_0000_f",
		"00000000.0000000",
		"00000000000000é",
		"000000000000000é",
		"００００００００００００００００",
	} {
		checkNoNumber(t, s)
	}
}

func TestP3_6Extend(t *testing.T) {
	for _, s := range texts() {
		for end := range len(s) + 1 {
			a, b := s[:end], s[end:]
			for _, h := range []uint64{0, 1, basisHash, 0x0123456789abcdef, lastHash} {
				if got, want := Extend(Extend(h, a), b), Extend(h, s); got != want {
					t.Fatalf("Extend(Extend(%#x, %.40q), %.40q) = %#x, want %#x", h, a, b, got, want)
				}
			}
		}
	}
}

func TestP3_6Update(t *testing.T) {
	for _, s := range texts() {
		for end := range len(s) + 1 {
			a, b := s[:end], s[end:]
			for _, sum := range []uint32{0, 1, 0xe3069283, lastSum} {
				if got, want := Update(Update(sum, a), b), Update(sum, s); got != want {
					t.Fatalf("Update(Update(%#x, %.40q), %.40q) = %#x, want %#x", sum, a, b, got, want)
				}
			}
		}
	}
}

func TestP3_7RoundTrip(t *testing.T) {
	for _, s := range append(texts(), strings.Repeat("clockwork", 1000)) {
		checkOpen(t, Seal(s), s)
		// A sealed string can be sealed like any other one.
		checkOpen(t, Seal(Seal(s)), Seal(s))
	}
}

// eachChange calls f for all strings that differ from s in one byte.
func eachChange(s string, f func(changed string)) {
	list := []byte(s)
	for place := range list {
		for c := range 256 {
			if byte(c) != s[place] {
				list[place] = byte(c)
				f(string(list))
			}
		}
		list[place] = s[place]
	}
}

// TestP3_7Changed changes each byte of sealed strings to every other byte.
func TestP3_7Changed(t *testing.T) {
	for _, s := range texts() {
		if len(s) <= 40 {
			eachChange(Seal(s), func(changed string) { checkClosed(t, changed, api.ErrChecksum) })
		}
	}
}

func TestP3_8RoundTrip(t *testing.T) {
	for _, h := range hashes() {
		checkNumber(t, Hex(h), h)
	}
}

// TestP3_8OneByte requires that strings that differ only in the byte at one place have different hashes and checksums.
func TestP3_8OneByte(t *testing.T) {
	for _, s := range texts() {
		if len(s) > 40 {
			continue
		}
		for place := range len(s) {
			hash, sum := map[uint64]bool{}, map[uint32]bool{}
			for c := range 256 {
				changed := s[:place] + string([]byte{byte(c)}) + s[place+1:]
				hash[FNV(changed)], sum[CRC(changed)] = true, true
			}
			if len(hash) != 256 || len(sum) != 256 {
				t.Fatalf("%q, with all bytes at %d: %d hashes, %d checksums", s, place, len(hash), len(sum))
			}
		}
	}
}
