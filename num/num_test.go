package num

import (
	"clockwork/api"
	"math"
	"math/big"
	"strings"
	"testing"
)

// edges are numbers around 0, around the bounds of the integers, and around the places where products begin to overflow.
func edges() []int64 {
	centers := []int64{0, 10, 1 << 31, 1 << 32, math.MaxInt64 / 3, math.MaxInt64 / 2, 3037000499, math.MaxInt64 - 3}
	var list []int64
	for _, c := range centers {
		for d := int64(-3); d <= 3; d++ {
			list = append(list, c+d, -c-d)
		}
	}
	return append(list, math.MinInt64)
}

// scrambled are numbers of all sizes and both signs that follow no obvious pattern, the same in each run.
func scrambled(count int) []int64 {
	list := make([]int64, count)
	x := uint64(1)
	for i := range list {
		x ^= x << 13
		x ^= x >> 7
		x ^= x << 17
		list[i] = int64(x) >> (i % 64)
	}
	return list
}

// eachPair calls f for all pairs of edges, and for pairs of scrambled numbers.
func eachPair(f func(a, b int64)) {
	for _, a := range edges() {
		for _, b := range edges() {
			f(a, b)
		}
	}
	list := scrambled(4097)
	for i := range len(list) - 1 {
		f(list[i], list[i+1])
	}
}

// checkExact compares the result of an operation with the exact result.
func checkExact(t *testing.T, name string, a, b, got int64, e api.Errno, want *big.Int) {
	t.Helper()
	if !want.IsInt64() {
		if got != 0 || e != api.ErrOverflow {
			t.Fatalf("%s(%d, %d) = %d, %d, want 0, ErrOverflow", name, a, b, got, e)
		}
		return
	}
	if got != want.Int64() || e != api.OK {
		t.Fatalf("%s(%d, %d) = %d, %d, want %s, OK", name, a, b, got, e, want)
	}
}

// floorDiv returns the exact quotient of a and b, which is not 0, rounded toward negative infinity.
func floorDiv(a, b int64) *big.Int {
	x, y := big.NewInt(a), big.NewInt(b)
	if b < 0 {
		x.Neg(x)
		y.Neg(y)
	}
	// With a positive divisor, Euclidean division rounds toward negative infinity.
	return x.Div(x, y)
}

func TestP1_1Exact(t *testing.T) {
	eachPair(func(a, b int64) {
		x, y := big.NewInt(a), big.NewInt(b)
		sum, e := Add(a, b)
		checkExact(t, "Add", a, b, sum, e, new(big.Int).Add(x, y))
		difference, e := Sub(a, b)
		checkExact(t, "Sub", a, b, difference, e, new(big.Int).Sub(x, y))
		product, e := Mul(a, b)
		checkExact(t, "Mul", a, b, product, e, new(big.Int).Mul(x, y))
		negative, e := Neg(a)
		checkExact(t, "Neg", a, b, negative, e, new(big.Int).Neg(x))
	})
}

// example is a call of one operation with the result that the chapter requires.
type example struct {
	name string
	f    func(a, b int64) (int64, api.Errno)
	a, b int64
	want int64
	e    api.Errno
}

func checkExamples(t *testing.T, list []example) {
	t.Helper()
	for _, c := range list {
		if got, e := c.f(c.a, c.b); got != c.want || e != c.e {
			t.Fatalf("%s(%d, %d) = %d, %d, want %d, %d", c.name, c.a, c.b, got, e, c.want, c.e)
		}
	}
}

func TestP1_1Bounds(t *testing.T) {
	const least, greatest = math.MinInt64, math.MaxInt64
	checkExamples(t, []example{
		{"Add", Add, greatest, 1, 0, api.ErrOverflow},
		{"Add", Add, greatest, 0, greatest, api.OK},
		{"Add", Add, least, -1, 0, api.ErrOverflow},
		{"Add", Add, least, greatest, -1, api.OK},
		{"Sub", Sub, 0, least, 0, api.ErrOverflow},
		{"Sub", Sub, -1, least, greatest, api.OK},
		{"Sub", Sub, least, 1, 0, api.ErrOverflow},
		{"Sub", Sub, least, least, 0, api.OK},
		{"Mul", Mul, least, -1, 0, api.ErrOverflow},
		{"Mul", Mul, -1, least, 0, api.ErrOverflow},
		{"Mul", Mul, greatest, -1, -greatest, api.OK},
		{"Mul", Mul, least, 0, 0, api.OK},
		{"Mul", Mul, 1 << 32, 1 << 31, 0, api.ErrOverflow},
		{"Mul", Mul, -1 << 32, 1 << 31, least, api.OK},
	})
	for _, c := range []struct {
		a, want int64
		e       api.Errno
	}{{least, 0, api.ErrOverflow}, {least + 1, greatest, api.OK}, {greatest, -greatest, api.OK}, {0, 0, api.OK}, {7, -7, api.OK}} {
		if got, e := Neg(c.a); got != c.want || e != c.e {
			t.Errorf("Neg(%d) = %d, %d, want %d, %d", c.a, got, e, c.want, c.e)
		}
	}
}

func TestP1_2Exact(t *testing.T) {
	eachPair(func(a, b int64) {
		if b == 0 {
			return
		}
		exact := floorDiv(a, b)
		quotient, e := Div(a, b)
		checkExact(t, "Div", a, b, quotient, e, exact)
		// Mod has a result even where the quotient is no integer.
		rest := new(big.Int).Mul(exact, big.NewInt(b))
		rest.Sub(big.NewInt(a), rest)
		remainder, e := Mod(a, b)
		checkExact(t, "Mod", a, b, remainder, e, rest)
	})
}

func TestP1_2Zero(t *testing.T) {
	for _, a := range append(edges(), scrambled(128)...) {
		checkExamples(t, []example{
			{"Div", Div, a, 0, 0, api.ErrDivide},
			{"Mod", Mod, a, 0, 0, api.ErrDivide},
		})
	}
}

func TestP1_2Bounds(t *testing.T) {
	const least, greatest = math.MinInt64, math.MaxInt64
	checkExamples(t, []example{
		{"Div", Div, 7, 2, 3, api.OK},
		{"Div", Div, -7, 2, -4, api.OK},
		{"Div", Div, 7, -2, -4, api.OK},
		{"Div", Div, -7, -2, 3, api.OK},
		{"Div", Div, -8, 2, -4, api.OK},
		{"Div", Div, least, -1, 0, api.ErrOverflow},
		{"Div", Div, least, 1, least, api.OK},
		{"Div", Div, greatest, -1, -greatest, api.OK},
		{"Div", Div, 1, least, -1, api.OK},
		{"Div", Div, greatest, least, -1, api.OK},
		{"Div", Div, least, greatest, -2, api.OK},
		{"Mod", Mod, 7, 2, 1, api.OK},
		{"Mod", Mod, -7, 2, 1, api.OK},
		{"Mod", Mod, 7, -2, -1, api.OK},
		{"Mod", Mod, -7, -2, -1, api.OK},
		{"Mod", Mod, -8, 2, 0, api.OK},
		{"Mod", Mod, least, -1, 0, api.OK},
		{"Mod", Mod, 5, -1, 0, api.OK},
		{"Mod", Mod, 1, least, least + 1, api.OK},
		{"Mod", Mod, least, greatest, greatest - 1, api.OK},
	})
}

func TestP1_3Format(t *testing.T) {
	for _, c := range []struct {
		n    int64
		want string
	}{
		{0, "0"},
		{7, "7"},
		{-12, "-12"},
		{100, "100"},
		{math.MaxInt64, "9223372036854775807"},
		{math.MinInt64, "-9223372036854775808"},
	} {
		if got := Format(c.n); got != c.want {
			t.Errorf("Format(%d) = %q, want %q", c.n, got, c.want)
		}
	}
	for _, n := range append(edges(), scrambled(1024)...) {
		if got, want := Format(n), big.NewInt(n).String(); got != want {
			t.Fatalf("Format(%d) = %q, want %q", n, got, want)
		}
	}
}

func TestP1_4Integers(t *testing.T) {
	for _, c := range []struct {
		s    string
		want int64
	}{
		{"0", 0},
		{"7", 7},
		{"-1", -1},
		{"10", 10},
		{"-100", -100},
		{"9223372036854775799", math.MaxInt64 - 8},
		{"9223372036854775807", math.MaxInt64},
		{"-9223372036854775808", math.MinInt64},
	} {
		if got, e := Parse(c.s); got != c.want || e != api.OK {
			t.Errorf("Parse(%q) = %d, %d, want %d, OK", c.s, got, e, c.want)
		}
	}
}

func TestP1_4Syntax(t *testing.T) {
	long := strings.Repeat("9", 40)
	for _, s := range []string{
		"", "-", "--1", "-0", "+5", "+0", "00", "007", "-07", "-00",
		" 1", "1 ", "1-", "1-1", "x", "1x", "x1", "-x", "1/", "1:", "1_0", "1.0", "1e3", "0x10", "\x00", "1\x00", "\xff", "١", "１",
		long + "x", "-" + long + "x", "x" + long, "0" + long, "-0" + long, "9223372036854775808 ",
	} {
		if got, e := Parse(s); got != 0 || e != api.ErrSyntax {
			t.Errorf("Parse(%q) = %d, %d, want 0, ErrSyntax", s, got, e)
		}
	}
}

func TestP1_4SingleBytes(t *testing.T) {
	for c := range 256 {
		s := string([]byte{byte(c)})
		want, wantE := int64(0), api.ErrSyntax
		if c >= '0' && c <= '9' {
			want, wantE = int64(c-'0'), api.OK
		}
		if got, e := Parse(s); got != want || e != wantE {
			t.Errorf("Parse(%q) = %d, %d, want %d, %d", s, got, e, want, wantE)
		}
	}
}

func TestP1_4Overflow(t *testing.T) {
	for _, s := range []string{
		"9223372036854775808", "-9223372036854775809", "9223372036854775810", "-9223372036854775810",
		"10000000000000000000", "-10000000000000000000", "18446744073709551616", "-18446744073709551616", "18446744073709551617",
		"92233720368547758070", "-92233720368547758080", "92233720368547758090", "1" + strings.Repeat("0", 64), "-" + strings.Repeat("7", 1000),
	} {
		if got, e := Parse(s); got != 0 || e != api.ErrOverflow {
			t.Errorf("Parse(%q) = %d, %d, want 0, ErrOverflow", s, got, e)
		}
	}
}

func TestP1_4AroundBounds(t *testing.T) {
	for _, bound := range []int64{math.MinInt64, math.MaxInt64} {
		for d := int64(-200); d <= 200; d++ {
			n := new(big.Int).Add(big.NewInt(bound), big.NewInt(d))
			got, e := Parse(n.String())
			checkExact(t, "Parse", bound, d, got, e, n)
		}
	}
}

func TestP1_5Division(t *testing.T) {
	eachPair(func(a, b int64) {
		quotient, e := Div(a, b)
		if e != api.OK {
			return
		}
		remainder, e := Mod(a, b)
		// The product itself may lie beyond the integers, so that Mul cannot be used here.
		sum := new(big.Int).Mul(big.NewInt(b), big.NewInt(quotient))
		sum.Add(sum, big.NewInt(remainder))
		if e != api.OK || sum.Cmp(big.NewInt(a)) != 0 {
			t.Fatalf("%d * Div(%d, %d) + Mod(%d, %d) = %d * %d + %d = %s", b, a, b, a, b, b, quotient, remainder, sum)
		}
		between := 0 < remainder && remainder < b || b < remainder && remainder < 0
		if remainder != 0 && !between {
			t.Fatalf("Mod(%d, %d) = %d", a, b, remainder)
		}
	})
}

func TestP1_5Commutes(t *testing.T) {
	eachPair(func(a, b int64) {
		x, e := Add(a, b)
		checkExamples(t, []example{{"Add", Add, b, a, x, e}})
		x, e = Mul(a, b)
		checkExamples(t, []example{{"Mul", Mul, b, a, x, e}})
	})
}

func TestP1_5ParseInvertsFormat(t *testing.T) {
	for _, n := range append(edges(), scrambled(4096)...) {
		if got, e := Parse(Format(n)); got != n || e != api.OK {
			t.Fatalf("Parse(%q) = %d, %d", Format(n), got, e)
		}
	}
}

// TestP1_5AcceptsOnlyFormat parses all texts of up to five bytes from a few that occur in numbers or nearly do.
func TestP1_5AcceptsOnlyFormat(t *testing.T) {
	const alphabet = "0189-+/:"
	texts := []string{""}
	for range 5 {
		var longer []string
		for _, s := range texts {
			for i := range len(alphabet) {
				longer = append(longer, s+alphabet[i:i+1])
			}
		}
		for _, s := range longer {
			n, e := Parse(s)
			if e == api.OK && Format(n) != s || e != api.OK && (n != 0 || e != api.ErrSyntax) {
				t.Fatalf("Parse(%q) = %d, %d", s, n, e)
			}
		}
		texts = longer
	}
}
