package value

import (
	"clockwork/api"
	"clockwork/wire"
	"math"
	"math/big"
	"regexp"
	"slices"
	"strconv"
	"strings"
	"testing"
	"unsafe"
)

// The tests write the bytes out, where the package computes with them.
const (
	plainBytes = " !\"#$%&'()*+,-./0123456789:;<=>?@ABCDEFGHIJKLMNOPQRSTUVWXYZ[\\]^_`abcdefghijklmnopqrstuvwxyz{|}~"
	longest    = 64
)

func intOf(n int64) api.Value {
	return api.Value{Kind: api.KInt, N: n}
}

func strOf(s string) api.Value {
	return api.Value{Kind: api.KStr, S: s}
}

// isPlainText is the definition of a plain string.
func isPlainText(s string) bool {
	return len(s) <= longest && strings.Trim(s, plainBytes) == ""
}

// isValue is the definition of a valid value.
func isValue(v api.Value) bool {
	return v == api.Value{} || v == intOf(v.N) || v == strOf(v.S) && isPlainText(v.S)
}

// textOf is the definition of the text of a valid value.
func textOf(v api.Value) string {
	switch v.Kind {
	case api.KInt:
		return strconv.FormatInt(v.N, 10)
	case api.KStr:
		return `"` + strings.NewReplacer(`"`, `\"`, `\`, `\\`).Replace(v.S) + `"`
	}
	return "nil"
}

// everyByte returns the strings of one byte.
func everyByte() []string {
	list := make([]string, 256)
	for i := range list {
		list[i] = string([]byte{byte(i)})
	}
	return list
}

// textsAround returns strings in which b stands alone, at the beginning, in the middle and at the end, of up to MaxStr bytes and one more.
func textsAround(b string) []string {
	list := []string{b, b + b, b + "a", "a" + b, "a" + b + "a"}
	for _, n := range []int{longest - 1, longest} {
		for before := range n + 1 {
			list = append(list, strings.Repeat("k", before)+b+strings.Repeat("k", n-before))
		}
	}
	return append(list, strings.Repeat(b, longest), strings.Repeat(b, longest+1))
}

// plainTexts are plain strings: of all lengths, of each byte, with double quotes and backslashes at every place, and with texts of other values.
func plainTexts() []string {
	list := []string{plainBytes[:longest], plainBytes[len(plainBytes)-longest:], "nil", "0", "-1", "a\"b", "a\\b", `\n`, `""`, `"a"`, `\"\`, `"\"`, `\\\`, `\"`, `"\`}
	for n := range longest + 1 {
		list = append(list, strings.Repeat("x", n), strings.Repeat(`"`, n), strings.Repeat(`\`, n), strings.Repeat(`"\`, n/2), strings.Repeat(" ", n), strings.Repeat("~", n))
	}
	for _, b := range everyByte() {
		for _, s := range textsAround(b) {
			if isPlainText(s) {
				list = append(list, s)
			}
		}
	}
	slices.Sort(list)
	return slices.Compact(list)
}

// strangeTexts are not plain: a byte is none of 32 to 126, or there are too many.
func strangeTexts() []string {
	list := []string{"\x00", "\x1f", "\x7f", "\x80", "\xff", "é", "\xc3", "日本", "a\n", "\ta", "a\x1fb", "a\x7fb", "\x7f ", "~\x7f", "\x1f "}
	for _, b := range []string{"a", " ", "~", `"`, `\`, "\xff", "\x00"} {
		list = append(list, strings.Repeat(b, longest+1), strings.Repeat(b, 1000))
	}
	return list
}

// integers are the bounds of an integer, 0, all powers of two and of ten with their neighbors, and numbers of all sizes without a pattern.
func integers() []int64 {
	list := []int64{0, 1, -1, math.MinInt64, math.MinInt64 + 1, math.MaxInt64 - 1, math.MaxInt64}
	for shift := range 64 {
		list = append(list, 1<<shift-1, 1<<shift, 1<<shift+1, -(1 << shift), -(1<<shift)-1, -(1<<shift)+1)
	}
	for p := int64(1); p < math.MaxInt64/10; p *= 10 {
		list = append(list, p-1, p, p+1, -p, -p+1, -p-1)
	}
	x := uint64(1)
	for i := range 300 {
		x ^= x << 13
		x ^= x >> 7
		x ^= x << 17
		list = append(list, int64(x)>>(i%64))
	}
	slices.Sort(list)
	return slices.Compact(list)
}

// validValues are valid values, each of them once.
func validValues() []api.Value {
	list := []api.Value{{}}
	for _, n := range integers() {
		list = append(list, intOf(n))
	}
	for _, s := range plainTexts() {
		list = append(list, strOf(s))
	}
	return list
}

// allValues are valid and invalid values of every combination of fields, in ascending order.
func allValues() []api.Value {
	long := strings.Repeat("m", longest)
	var list []api.Value
	for _, kind := range []int{math.MinInt, -1, 0, 1, 2, 3, 4, math.MaxInt} {
		for _, n := range []int64{math.MinInt64, math.MinInt64 + 1, -1, 0, 1, math.MaxInt64} {
			for _, s := range []string{"", "\x00", "\x1f", " ", "\"", "B", "\\", "a", "a\x00", "a\"", "ab", "b", long, long + "m", "z", "~", "~~", "\x7f", "\x80", "é", "\xff"} {
				list = append(list, api.Value{Kind: kind, N: n, S: s})
			}
		}
	}
	return list
}

func TestP5_1Valid(t *testing.T) {
	long := strings.Repeat("x", longest)
	for _, c := range []struct {
		v    api.Value
		want bool
	}{
		{api.Value{Kind: 0}, true}, {api.Value{Kind: 0, N: 1}, false}, {api.Value{Kind: 0, N: -1}, false}, {api.Value{Kind: 0, S: "a"}, false},
		{api.Value{Kind: 0, N: math.MinInt64}, false}, {api.Value{Kind: 0, S: "\x00"}, false}, {api.Value{Kind: 0, N: 1, S: "a"}, false},
		{api.Value{Kind: 1}, true}, {api.Value{Kind: 1, N: -1}, true}, {api.Value{Kind: 1, N: math.MinInt64}, true}, {api.Value{Kind: 1, N: math.MaxInt64}, true},
		{api.Value{Kind: 1, S: "a"}, false}, {api.Value{Kind: 1, N: 7, S: "7"}, false}, {api.Value{Kind: 1, S: "\x00"}, false}, {api.Value{Kind: 1, S: " "}, false},
		{api.Value{Kind: 2}, true}, {api.Value{Kind: 2, S: "a"}, true}, {api.Value{Kind: 2, S: " ~"}, true}, {api.Value{Kind: 2, S: "\"\\"}, true},
		{api.Value{Kind: 2, N: 1}, false}, {api.Value{Kind: 2, N: -1, S: "a"}, false}, {api.Value{Kind: 2, N: 1, S: long}, false},
		{api.Value{Kind: 2, S: long}, true}, {api.Value{Kind: 2, S: long + "x"}, false}, {api.Value{Kind: 2, S: long[1:] + "\x1f"}, false},
		{api.Value{Kind: 2, S: "\x1f"}, false}, {api.Value{Kind: 2, S: "a\x7f"}, false}, {api.Value{Kind: 2, S: "é"}, false}, {api.Value{Kind: 2, S: "\n"}, false},
		{api.Value{Kind: 3}, false}, {api.Value{Kind: 3, N: 1}, false}, {api.Value{Kind: 3, S: "a"}, false},
		{api.Value{Kind: 4}, false}, {api.Value{Kind: -1}, false}, {api.Value{Kind: math.MinInt}, false}, {api.Value{Kind: math.MaxInt}, false},
		{api.Value{Kind: 4, N: 1}, false}, {api.Value{Kind: 4, S: "a"}, false}, {api.Value{Kind: -2, S: "a"}, false}, {api.Value{Kind: 1 << 32}, false},
	} {
		if got := Valid(c.v); got != c.want {
			t.Errorf("Valid(%#v) = %t", c.v, got)
		}
	}
	for _, v := range allValues() {
		if got := Valid(v); got != isValue(v) {
			t.Errorf("Valid(%#v) = %t", v, got)
		}
	}
	for _, v := range validValues() {
		if !Valid(v) {
			t.Errorf("Valid(%#v) = false", v)
		}
	}
}

func TestP5_1Int(t *testing.T) {
	for _, n := range integers() {
		if got := Int(n); got != (api.Value{Kind: 1, N: n}) || !Valid(got) {
			t.Errorf("Int(%d) = %#v", n, got)
		}
	}
}

// checkStr requires a value if s is plain, and otherwise an error, with which the value is zero.
func checkStr(t *testing.T, s string, ok bool) {
	t.Helper()
	want, e := api.Value{Kind: 2, S: s}, api.OK
	if !ok {
		want, e = api.Value{}, api.ErrArg
	}
	if got, gotE := Str(s); got != want || gotE != e {
		t.Fatalf("Str(%q) = %#v, %d, want %#v, %d", s, got, gotE, want, e)
	}
	if got := Valid(api.Value{Kind: 2, S: s}); got != ok {
		t.Fatalf("Valid of the string %q = %t", s, got)
	}
}

func TestP5_1Str(t *testing.T) {
	for _, s := range plainTexts() {
		checkStr(t, s, true)
	}
	for _, s := range strangeTexts() {
		checkStr(t, s, false)
	}
}

func TestP5_1StrEveryByte(t *testing.T) {
	count := 0
	for i, b := range everyByte() {
		plain := strings.Contains(plainBytes, b)
		if plain != (i >= 32 && i <= 126) {
			t.Fatalf("the test takes %q for plain: %t", b, plain)
		}
		if plain {
			count++
		}
		for _, s := range textsAround(b) {
			checkStr(t, s, plain && len(s) <= 64)
		}
	}
	if count != 95 {
		t.Errorf("%d bytes are plain", count)
	}
}

func TestP5_2Compare(t *testing.T) {
	for _, c := range []struct {
		a, b api.Value
		want int
	}{
		{api.Value{}, api.Value{}, 0}, {api.Value{}, intOf(math.MinInt64), -1}, {api.Value{}, strOf(""), -1},
		{intOf(math.MaxInt64), strOf(""), -1}, {intOf(-3), intOf(2), -1}, {intOf(2), intOf(2), 0}, {intOf(9), intOf(10), -1},
		{intOf(math.MinInt64), intOf(math.MaxInt64), -1}, {intOf(math.MinInt64), intOf(1), -1}, {intOf(-2), intOf(math.MaxInt64), -1},
		{intOf(0), intOf(1 << 32), -1}, {intOf(-1), intOf(0), -1},
		{strOf(""), strOf("a"), -1}, {strOf("a"), strOf("ab"), -1}, {strOf("ab"), strOf("b"), -1}, {strOf("B"), strOf("a"), -1},
		{strOf("10"), strOf("9"), -1}, {strOf("a"), strOf("a"), 0}, {strOf("~"), strOf("\x7f"), -1}, {strOf("\x7f"), strOf("\x80"), -1},
		{api.Value{N: 1}, api.Value{N: 2}, -1}, {api.Value{N: 1, S: "b"}, api.Value{N: 2, S: "a"}, -1}, {api.Value{S: "a"}, api.Value{S: "b"}, -1},
		{api.Value{Kind: 1, N: 1, S: "b"}, api.Value{Kind: 1, N: 2, S: "a"}, -1}, {api.Value{Kind: 1, N: 1, S: "a"}, api.Value{Kind: 1, N: 1, S: "b"}, -1},
		{api.Value{Kind: 2, N: 1, S: "b"}, api.Value{Kind: 2, N: 2, S: "a"}, -1}, {api.Value{Kind: 2, N: 1, S: "a"}, api.Value{Kind: 2, N: 1, S: "b"}, -1},
		{api.Value{Kind: 3, N: 0}, api.Value{Kind: 3, N: 1}, -1}, {api.Value{Kind: 3, S: "a"}, api.Value{Kind: 3, S: "b"}, -1},
		{api.Value{Kind: -1, N: 9, S: "z"}, api.Value{}, -1}, {strOf("z"), api.Value{Kind: 3}, -1}, {api.Value{Kind: 9, S: "a"}, api.Value{Kind: 9, N: 1}, -1},
		{api.Value{Kind: math.MinInt}, api.Value{Kind: math.MaxInt}, -1}, {api.Value{Kind: math.MinInt}, api.Value{Kind: 1}, -1},
	} {
		checkCompare(t, c.a, c.b, c.want)
		checkCompare(t, c.b, c.a, -c.want)
	}
}

func checkCompare(t *testing.T, a, b api.Value, want int) {
	t.Helper()
	if got := Compare(a, b); got != want {
		t.Fatalf("Compare(%#v, %#v) = %d, want %d", a, b, got, want)
	}
}

// checkOrder requires that the values of the list are ascending, and each of them is equal to itself only.
func checkOrder(t *testing.T, list []api.Value) {
	t.Helper()
	for i, a := range list {
		for j, b := range list {
			want := 0
			if i < j {
				want = -1
			}
			if i > j {
				want = 1
			}
			checkCompare(t, a, b, want)
		}
	}
}

func TestP5_2CompareAll(t *testing.T) {
	checkOrder(t, allValues())
}

func TestP5_3Format(t *testing.T) {
	for _, c := range []struct {
		v    api.Value
		want string
	}{
		{api.Value{}, "nil"},
		{intOf(0), "0"}, {intOf(-7), "-7"}, {intOf(-1), "-1"}, {intOf(10), "10"},
		{intOf(math.MinInt64), "-9223372036854775808"}, {intOf(math.MaxInt64), "9223372036854775807"},
		{strOf(""), `""`}, {strOf("nil"), `"nil"`}, {strOf("7"), `"7"`}, {strOf(" ~"), `" ~"`}, {strOf("a\"b"), `"a\"b"`}, {strOf("a\\b"), `"a\\b"`},
		{strOf("\""), `"\""`}, {strOf("\\"), `"\\"`}, {strOf("\"a\\"), `"\"a\\"`}, {strOf("\\a\""), `"\\a\""`}, {strOf("\\\""), `"\\\""`}, {strOf("\"\""), `"\"\""`},
		{strOf("\\n"), `"\\n"`}, {strOf("'`/"), "\"'`/\""},
		{strOf(strings.Repeat("x", 64)), `"` + strings.Repeat("x", 64) + `"`}, {strOf(strings.Repeat("\\", 64)), `"` + strings.Repeat("\\\\", 64) + `"`},
		{strOf(strings.Repeat("x", 65)), ""}, {strOf("\x1f"), ""}, {strOf("\x7f"), ""}, {strOf("a\n"), ""}, {strOf("é"), ""},
		{api.Value{N: 1}, ""}, {api.Value{S: "a"}, ""}, {api.Value{Kind: 1, S: "a"}, ""}, {api.Value{Kind: 1, N: 5, S: " "}, ""},
		{api.Value{Kind: 2, N: 1}, ""}, {api.Value{Kind: 2, N: 1, S: "a"}, ""},
		{api.Value{Kind: 3}, ""}, {api.Value{Kind: 3, N: 1}, ""}, {api.Value{Kind: 4, N: 1}, ""}, {api.Value{Kind: -1}, ""}, {api.Value{Kind: -1, S: "a"}, ""},
	} {
		if got := Format(c.v); got != c.want {
			t.Errorf("Format(%#v) = %q, want %q", c.v, got, c.want)
		}
	}
	for _, v := range append(allValues(), validValues()...) {
		want := ""
		if isValue(v) {
			want = textOf(v)
		}
		if got := Format(v); got != want {
			t.Fatalf("Format(%#v) = %q, want %q", v, got, want)
		}
	}
}

func checkParse(t *testing.T, s string, want api.Value) {
	t.Helper()
	if got, e := Parse(s); got != want || e != api.OK {
		t.Fatalf("Parse(%q) = %#v, %d, want %#v, OK", s, got, e, want)
	}
}

// checkParseError requires an error, with which the value is zero.
func checkParseError(t *testing.T, s string, want api.Errno) {
	t.Helper()
	if got, e := Parse(s); got != (api.Value{}) || e != want {
		t.Fatalf("Parse(%q) = %#v, %d, want a zero value, %d", s, got, e, want)
	}
}

func TestP5_4Nil(t *testing.T) {
	checkParse(t, "nil", api.Value{})
	for _, s := range []string{"", " ", "n", "ni", "il", "nill", "nnil", "NIL", "Nil", "nil ", " nil", "nil\n", "nil\x00", "nil0", "0nil", "-nil", "nil\"", "nilnil", "'nil'", "null", "true", "false"} {
		checkParseError(t, s, api.ErrSyntax)
	}
}

func TestP5_4Int(t *testing.T) {
	for _, n := range integers() {
		checkParse(t, strconv.FormatInt(n, 10), intOf(n))
	}
	checkParse(t, "9223372036854775807", intOf(math.MaxInt64))
	checkParse(t, "-9223372036854775808", intOf(math.MinInt64))
	for _, s := range []string{"9223372036854775808", "-9223372036854775809", "9223372036854775810", "10000000000000000000", "18446744073709551616", "-18446744073709551616", strings.Repeat("9", 65), strings.Repeat("1", 1000)} {
		checkParseError(t, s, api.ErrOverflow)
	}
	for _, s := range []string{"-0", "+5", "+0", "007", "00", "01", "-01", "-", "--1", "- 1", "5-", "1 ", " 1", "1\n", "1.0", "1e3", "0x1", "1_000", "a", "1a", "a1", "1\"", "\\1", "１", "09223372036854775808", "-09223372036854775809", "9223372036854775808x"} {
		checkParseError(t, s, api.ErrSyntax)
	}
}

func TestP5_4String(t *testing.T) {
	for _, c := range []struct{ s, want string }{
		{`""`, ""}, {`"a"`, "a"}, {`"nil"`, "nil"}, {`"7"`, "7"}, {`" "`, " "}, {`" ~"`, " ~"}, {`"\""`, `"`}, {`"\\"`, `\`}, {`"a\"b"`, `a"b`}, {`"a\\b"`, `a\b`},
		{`"\"a"`, `"a`}, {`"\\a"`, `\a`}, {`"a\""`, `a"`}, {`"a\\"`, `a\`}, {`"\\\""`, `\"`}, {`"\"\\"`, `"\`}, {`"\\\\"`, `\\`}, {`"\"\""`, `""`}, {`"\\n"`, `\n`},
	} {
		checkParse(t, c.s, strOf(c.want))
	}
	for _, s := range plainTexts() {
		checkParse(t, textOf(strOf(s)), strOf(s))
	}
}

func TestP5_4StringSyntax(t *testing.T) {
	for _, s := range []string{
		`"`, `"a`, `"\"`, `"\`, `"\\`, `"a\"`, `"a\\\"`, `"\\\"`, `a"`, `\""`,
		`"""`, `""""`, `"a""`, `""a"`, `""a`, `"a"b`, `"a"b"`, `"a" `, `""0`, `"a"nil`, "\"a\"\n", "\"a\"\x00", `"a\\"b"`,
		`"\a"`, `"\n"`, `"\t"`, `"\/"`, `"\0"`, `"\x41"`, `"\'"`, `"\ "`, `"a\b"`, `"\\\a"`, `"\"\a"`, "\"\\\n\"", "\"\\\x7f\"", "\"\\\xff\"",
		"\"\t\"", "\"\n\"", "\"\x00\"", "\"\x1f\"", "\"\x7f\"", "\"\x80\"", "\"\xff\"", `"é"`, "\"a\x1f\"", "\"\x7fa\"", "\"a\x7fb\"",
		"'a'", "`a`", "«a»", `a`, `\"a\"`, ` "a"`, `-"a"`,
	} {
		checkParseError(t, s, api.ErrSyntax)
	}
}

// TestP5_4EveryByte puts every byte at every place of a string, with and without a backslash.
func TestP5_4EveryByte(t *testing.T) {
	for _, b := range everyByte() {
		special := b == `"` || b == `\`
		for before := range longest {
			start, end := strings.Repeat("k", before), strings.Repeat("k", longest-1-before)
			if strings.Contains(plainBytes, b) && !special {
				checkParse(t, `"`+start+b+end+`"`, strOf(start+b+end))
			} else {
				checkParseError(t, `"`+start+b+end+`"`, api.ErrSyntax)
			}
			if special {
				checkParse(t, `"`+start+`\`+b+end+`"`, strOf(start+b+end))
			} else {
				checkParseError(t, `"`+start+`\`+b+end+`"`, api.ErrSyntax)
			}
		}
		checkParseError(t, `""`+b, api.ErrSyntax)
		checkParseError(t, `"a"`+b, api.ErrSyntax)
		checkParseError(t, `"a`+strings.TrimPrefix(b, `"`), api.ErrSyntax)
	}
}

// TestP5_4Limit counts characters, not bytes, and finds errors of the syntax first.
func TestP5_4Limit(t *testing.T) {
	for _, c := range []struct{ char, plain string }{{"x", "x"}, {" ", " "}, {`\"`, `"`}, {`\\`, `\`}} {
		most := strings.Repeat(c.char, longest)
		checkParse(t, `"`+most+`"`, strOf(strings.Repeat(c.plain, longest)))
		checkParse(t, `"a`+strings.Repeat(c.char, longest-2)+`z"`, strOf("a"+strings.Repeat(c.plain, longest-2)+"z"))
		for _, more := range []string{"x", `\"`, `\\`} {
			checkParseError(t, `"`+most+more+`"`, api.ErrLimit)
			checkParseError(t, `"`+more+most+`"`, api.ErrLimit)
			checkParseError(t, `"`+most+most+more+`"`, api.ErrLimit)
			for _, wrong := range []string{"", `\"`, `x`, `\a"`, "\n\"", "\x7f\"", "é\"", `"" `, `""`, `"x"`, `\`} {
				checkParseError(t, `"`+most+more+wrong, api.ErrSyntax)
			}
			checkParseError(t, `"`+"\x1f"+most+more+`"`, api.ErrSyntax)
			checkParseError(t, `"\a`+most+more+`"`, api.ErrSyntax)
		}
	}
	checkParseError(t, `"`+strings.Repeat("x", 1<<16)+`"`, api.ErrLimit)
	checkParseError(t, `"`+strings.Repeat("x", 1<<16), api.ErrSyntax)
}

// parsed is the definition of the result of Parse.
func parsed(s string, isString, isNumber *regexp.Regexp) (api.Value, api.Errno) {
	switch {
	case s == "nil":
		return api.Value{}, api.OK
	case isString.MatchString(s):
		contents := strings.NewReplacer(`\"`, `"`, `\\`, `\`).Replace(s[1 : len(s)-1])
		if len(contents) > longest {
			return api.Value{}, api.ErrLimit
		}
		return strOf(contents), api.OK
	case isNumber.MatchString(s):
		n, _ := new(big.Int).SetString(s, 10)
		if !n.IsInt64() {
			return api.Value{}, api.ErrOverflow
		}
		return intOf(n.Int64()), api.OK
	}
	return api.Value{}, api.ErrSyntax
}

// eachText calls f for all strings of up to most of the parts.
func eachText(parts []string, most int, f func(s string)) {
	f("")
	if most == 0 {
		return
	}
	for _, part := range parts {
		eachText(parts, most-1, func(s string) { f(s + part) })
	}
}

func TestP5_4AllShortTexts(t *testing.T) {
	isString := regexp.MustCompile(`\A"([ !#-\[\]-~]|\\["\\])*"\z`)
	isNumber := regexp.MustCompile(`\A(0|-?[1-9][0-9]*)\z`)
	accepted := 0
	eachText([]string{`"`, `\`, "a", "n", "il", " ", "0", "7", "-", "~", "\x7f", strings.Repeat("8", 18), strings.Repeat("x", 30)}, 5, func(s string) {
		want, wantE := parsed(s, isString, isNumber)
		got, e := Parse(s)
		if got != want || e != wantE {
			t.Fatalf("Parse(%q) = %#v, %d, want %#v, %d", s, got, e, want, wantE)
		}
		if e == api.OK {
			accepted++
			if Format(got) != s {
				t.Fatalf("Parse accepts %q, but the text of its result is %q", s, Format(got))
			}
		}
	})
	if accepted < 1000 {
		t.Errorf("only %d texts are accepted", accepted)
	}
}

func TestP5_5Encode(t *testing.T) {
	long := strings.Repeat("x", 200)
	for _, c := range []struct {
		v    api.Value
		want string
	}{
		{api.Value{}, "\x00"},
		{intOf(0), "\x01\x00"}, {intOf(-1), "\x01\x01"}, {intOf(1), "\x01\x02"}, {intOf(64), "\x01\x80\x01"}, {intOf(-64), "\x01\x7f"},
		{intOf(math.MaxInt64), "\x01\xfe\xff\xff\xff\xff\xff\xff\xff\xff\x01"}, {intOf(math.MinInt64), "\x01\xff\xff\xff\xff\xff\xff\xff\xff\xff\x01"},
		{strOf(""), "\x02\x00"}, {strOf("ab"), "\x02\x02ab"}, {strOf("\"\\"), "\x02\x02\"\\"}, {strOf(long[:64]), "\x02\x40" + long[:64]},
		{strOf(long[:65]), "\x02\x41" + long[:65]}, {strOf(long), "\x02\xc8\x01" + long}, {strOf("\x00"), "\x02\x01\x00"}, {strOf("é\xff"), "\x02\x03é\xff"},
		{api.Value{Kind: 1, N: -1, S: "a"}, "\x01\x01"}, {api.Value{Kind: 2, N: 7, S: "a"}, "\x02\x01a"}, {api.Value{Kind: 0, N: 7, S: "a"}, "\x00"},
		{api.Value{Kind: 3, N: 1}, "\x00"}, {api.Value{Kind: 3, S: "a"}, "\x00"}, {api.Value{Kind: 4, N: 7, S: "a"}, "\x00"}, {api.Value{Kind: -1}, "\x00"},
		{api.Value{Kind: 128, N: 7}, "\x00"}, {api.Value{Kind: math.MinInt, N: 7, S: "a"}, "\x00"}, {api.Value{Kind: math.MaxInt}, "\x00"},
	} {
		if got := Encode(c.v); got != c.want {
			t.Errorf("Encode(%#v) = %q, want %q", c.v, got, c.want)
		}
	}
	for _, v := range append(allValues(), validValues()...) {
		want := "\x00"
		if v.Kind == 1 {
			want = "\x01" + wire.Int(v.N)
		}
		if v.Kind == 2 {
			want = "\x02" + wire.Text(v.S)
		}
		if got := Encode(v); got != want {
			t.Fatalf("Encode(%#v) = %q, want %q", v, got, want)
		}
	}
}

func checkDecode(t *testing.T, s string, at int, want api.Value, next int) {
	t.Helper()
	if got, gotNext, e := Decode(s, at); got != want || gotNext != next || e != api.OK {
		t.Fatalf("Decode(%q, %d) = %#v, %d, %d, want %#v, %d, OK", s, at, got, gotNext, e, want, next)
	}
}

// checkDecodeError requires an error, with which the value and the offset are zero.
func checkDecodeError(t *testing.T, s string, at int, want api.Errno) {
	t.Helper()
	if got, next, e := Decode(s, at); got != (api.Value{}) || next != 0 || e != want {
		t.Fatalf("Decode(%q, %d) = %#v, %d, %d, want a zero value, 0, %d", s, at, got, next, e, want)
	}
}

// checkDecodeAnywhere also requires what checkDecode does with bytes before the encoding, and behind it if it is not an error that the string ends.
func checkDecodeAnywhere(t *testing.T, s string, want api.Value, e api.Errno) {
	t.Helper()
	for _, before := range []string{"", "\x00", "\x01", "\x02", "\x80", "\xff\xff", "z", "\x02\x02ab"} {
		for _, behind := range []string{"", "\x00", "\x01\x01", "\x80", "\xff", "z", "\x02\x02ab"} {
			if e == api.OK {
				checkDecode(t, before+s+behind, len(before), want, len(before+s))
			} else if e != api.ErrTruncated || behind == "" {
				checkDecodeError(t, before+s+behind, len(before), e)
			}
		}
	}
}

func TestP5_5Decode(t *testing.T) {
	long := strings.Repeat("x", 64)
	for _, c := range []struct {
		s    string
		want api.Value
	}{
		{"\x00", api.Value{}},
		{"\x01\x00", intOf(0)}, {"\x01\x01", intOf(-1)}, {"\x01\x02", intOf(1)}, {"\x01\x80\x01", intOf(64)},
		{"\x01\xfe\xff\xff\xff\xff\xff\xff\xff\xff\x01", intOf(math.MaxInt64)}, {"\x01\xff\xff\xff\xff\xff\xff\xff\xff\xff\x01", intOf(math.MinInt64)},
		{"\x02\x00", strOf("")}, {"\x02\x02ab", strOf("ab")}, {"\x02\x02 ~", strOf(" ~")}, {"\x02\x03\"\\\"", strOf("\"\\\"")}, {"\x02\x40" + long, strOf(long)},
	} {
		checkDecodeAnywhere(t, c.s, c.want, api.OK)
	}
}

func TestP5_5DecodeErrors(t *testing.T) {
	for _, c := range []struct {
		s    string
		want api.Errno
	}{
		{"", api.ErrTruncated}, {"\x80", api.ErrTruncated}, {"\x81\x80", api.ErrTruncated},
		{"\x80\x00", api.ErrSyntax}, {"\x81\x00", api.ErrSyntax}, {"\x82\x80\x00", api.ErrSyntax},
		{"\xff\xff\xff\xff\xff\xff\xff\xff\xff\x02", api.ErrSyntax}, {"\xff\xff\xff\xff\xff\xff\xff\xff\xff\x80", api.ErrSyntax},
		{"\x03", api.ErrSyntax}, {"\x03\x01", api.ErrSyntax}, {"\x04", api.ErrSyntax}, {"\x7f", api.ErrSyntax}, {"\x80\x01", api.ErrSyntax}, {"\x80\x02", api.ErrSyntax}, {"\x81\x02\x00", api.ErrSyntax},
		{"\x81\x80\x80\x80\x10\x00", api.ErrSyntax}, {"\x82\x80\x80\x80\x10\x00", api.ErrSyntax}, {"\x80\x80\x80\x80\x10", api.ErrSyntax},
		{"\xff\xff\xff\xff\xff\xff\xff\xff\xff\x01", api.ErrSyntax}, {"\x81\x80\x80\x80\x80\x80\x80\x80\x80\x01\x00", api.ErrSyntax},
		{"\x01", api.ErrTruncated}, {"\x01\x80", api.ErrTruncated}, {"\x01\xff\xff\xff\xff\xff\xff\xff\xff\xff", api.ErrTruncated},
		{"\x01\x80\x00", api.ErrSyntax}, {"\x01\x81\x80\x00", api.ErrSyntax}, {"\x01\xff\xff\xff\xff\xff\xff\xff\xff\xff\x02", api.ErrSyntax},
		{"\x02", api.ErrTruncated}, {"\x02\x80", api.ErrTruncated}, {"\x02\x01", api.ErrTruncated}, {"\x02\x02a", api.ErrTruncated}, {"\x02\x40", api.ErrTruncated}, {"\x02\x40" + strings.Repeat("x", 63), api.ErrTruncated},
		{"\x02\x80\x00", api.ErrSyntax}, {"\x02\x81\x00a", api.ErrSyntax}, {"\x02\xff\xff\xff\xff\xff\xff\xff\xff\xff\x02", api.ErrSyntax},
		{"\x02\x41", api.ErrLimit}, {"\x02\x41" + strings.Repeat("x", 65), api.ErrLimit}, {"\x02\x80\x01", api.ErrLimit}, {"\x02\xff\xff\xff\xff\xff\xff\xff\xff\xff\x01", api.ErrLimit}, {"\x02\x41\x00", api.ErrLimit},
		{"\x02\x01\x1f", api.ErrSyntax}, {"\x02\x01\x7f", api.ErrSyntax}, {"\x02\x01\x00", api.ErrSyntax}, {"\x02\x02é", api.ErrSyntax}, {"\x02\x02a\n", api.ErrSyntax}, {"\x02\x02\x1fa", api.ErrSyntax},
		{"\x02\x02\x1f", api.ErrTruncated},
	} {
		checkDecodeAnywhere(t, c.s, api.Value{}, c.want)
	}
}

// TestP5_5DecodeOffsets decodes encodings that stand one behind the other, from every offset inside and outside of the string.
func TestP5_5DecodeOffsets(t *testing.T) {
	s := "\x02\x03\x01\x02 \x00\x01\x80\x01"
	for _, c := range []struct {
		at   int
		want api.Value
		next int
		e    api.Errno
	}{
		{math.MinInt, api.Value{}, 0, api.ErrArg}, {-2, api.Value{}, 0, api.ErrArg}, {-1, api.Value{}, 0, api.ErrArg},
		{0, api.Value{}, 0, api.ErrSyntax}, {1, api.Value{}, 0, api.ErrSyntax}, {2, intOf(1), 4, api.OK}, {3, api.Value{}, 0, api.ErrTruncated},
		{4, api.Value{}, 0, api.ErrSyntax}, {5, api.Value{}, 6, api.OK}, {6, intOf(64), 9, api.OK}, {7, api.Value{}, 0, api.ErrSyntax}, {8, api.Value{}, 0, api.ErrTruncated},
		{9, api.Value{}, 0, api.ErrTruncated}, {10, api.Value{}, 0, api.ErrArg}, {11, api.Value{}, 0, api.ErrArg}, {math.MaxInt, api.Value{}, 0, api.ErrArg},
	} {
		if c.e == api.OK {
			checkDecode(t, s, c.at, c.want, c.next)
		} else {
			checkDecodeError(t, s, c.at, c.e)
		}
	}
	for _, at := range []int{math.MinInt, -1, 1, 2, math.MaxInt} {
		checkDecodeError(t, "", at, api.ErrArg)
	}
	list, all := validValues(), ""
	for _, v := range list {
		all += Encode(v)
	}
	at := 0
	for _, v := range list {
		checkDecode(t, all, at, v, at+len(Encode(v)))
		at += len(Encode(v))
	}
	checkDecodeError(t, all, len(all), api.ErrTruncated)
	checkDecodeError(t, all, len(all)+1, api.ErrArg)
}

// TestP5_5DecodeEveryByte puts every byte at every place of strings.
func TestP5_5DecodeEveryByte(t *testing.T) {
	for _, b := range everyByte() {
		for _, s := range textsAround(b) {
			code := "\x02" + wire.Text(s)
			short := code[:len(code)-1]
			switch {
			case len(s) > longest:
				checkDecodeError(t, code, 0, api.ErrLimit)
				checkDecodeError(t, short, 0, api.ErrLimit)
			case !strings.Contains(plainBytes, b):
				checkDecodeError(t, code, 0, api.ErrSyntax)
				checkDecodeError(t, short, 0, api.ErrTruncated)
			default:
				checkDecode(t, code, 0, strOf(s), len(code))
				checkDecodeError(t, short, 0, api.ErrTruncated)
			}
		}
	}
}

// decoded is the definition of the result of Decode.
func decoded(s string, at int) (api.Value, int, api.Errno) {
	kind, next, e := wire.TakeUint(s, at)
	v := api.Value{Kind: int(kind)}
	if e == api.OK && kind > 2 {
		e = api.ErrSyntax
	}
	if e == api.OK && kind == 1 {
		v.N, next, e = wire.TakeInt(s, next)
	}
	if e == api.OK && kind == 2 {
		v.S, next, e = wire.TakeText(s, next, longest)
	}
	if e == api.OK && !isPlainText(v.S) {
		e = api.ErrSyntax
	}
	if e != api.OK {
		return api.Value{}, 0, e
	}
	return v, next, api.OK
}

func TestP5_5AllShortEncodings(t *testing.T) {
	accepted := 0
	eachText([]string{"\x00", "\x01", "\x02", "\x03", "\x1f", " ", "\x40", "\x41", "a", "~", "\x7f", "\x80", "\xff", strings.Repeat("x", 62)}, 4, func(s string) {
		for at := -1; at <= len(s)+1; at++ {
			want, wantNext, wantE := decoded(s, at)
			got, next, e := Decode(s, at)
			if got != want || next != wantNext || e != wantE {
				t.Fatalf("Decode(%q, %d) = %#v, %d, %d, want %#v, %d, %d", s, at, got, next, e, want, wantNext, wantE)
			}
			if e == api.OK {
				accepted++
				if Encode(got) != s[at:next] || !Valid(got) {
					t.Fatalf("Decode accepts %q, but the encoding of its result is %q", s[at:next], Encode(got))
				}
			}
		}
	})
	if accepted < 1000 {
		t.Errorf("only %d encodings are accepted", accepted)
	}
}

func TestP5_6RoundTrip(t *testing.T) {
	for _, v := range validValues() {
		checkParse(t, Format(v), v)
		checkDecodeAnywhere(t, Encode(v), v, api.OK)
		code := Encode(v)
		for end := range len(code) {
			// No beginning of an encoding is an encoding.
			checkDecodeError(t, code[:end], 0, api.ErrTruncated)
		}
	}
}

func TestP5_6Different(t *testing.T) {
	list := validValues()
	texts, codes := map[string]bool{}, map[string]bool{}
	for _, v := range list {
		texts[Format(v)], codes[Encode(v)] = true, true
	}
	if len(texts) != len(list) || len(codes) != len(list) {
		t.Errorf("%d values have %d texts and %d encodings", len(list), len(texts), len(codes))
	}
}

// TestP5_6TotalOrder compares valid values, which are listed in ascending order, and sorts all values.
func TestP5_6TotalOrder(t *testing.T) {
	var few []api.Value
	for i, v := range validValues() {
		if i%13 == 0 || v.Kind == 1 && v.N == 0 || v == strOf("") {
			few = append(few, v)
		}
	}
	checkOrder(t, few)
	sorted := allValues()
	mixed := make([]api.Value, 0, len(sorted))
	for i := range sorted {
		mixed = append(mixed, sorted[i*613%len(sorted)])
	}
	slices.SortFunc(mixed, Compare)
	if !slices.Equal(mixed, sorted) {
		t.Errorf("sorting does not give %#v", sorted)
	}
}

func TestP0_4NewMemory(t *testing.T) {
	plain, text := strings.Repeat("ab", 2), `"abab"`
	code := "\x02" + wire.Text(plain)
	made, _ := Str(plain)
	read, _ := Parse(text)
	taken, _, _ := Decode(code, 0)
	for _, c := range []struct{ got, argument string }{
		{made.S, plain}, {read.S, text[1:5]}, {taken.S, code[2:]}, {Format(made)[1:5], plain}, {Encode(made)[2:], plain},
	} {
		if c.got != c.argument || unsafe.StringData(c.got) == unsafe.StringData(c.argument) {
			t.Errorf("%q is in the memory of the argument %q", c.got, c.argument)
		}
	}
}
