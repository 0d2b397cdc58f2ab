package lexer

import (
	"clockwork/api"
	"math"
	"math/big"
	"regexp"
	"slices"
	"strconv"
	"strings"
	"testing"
	"unsafe"
)

// The tests write words, marks, bytes and limits out, where the package computes with them.
const (
	keywordList = "proc let put delete if else for to max emit abort not and or int str bool text len getint getstr has now random node"
	markList    = "( ) { } , ; : = == != < <= > >= + - * / % ++"
	letters     = "abcdefghijklmnopqrstuvwxyz"
	digits      = "0123456789"
	wordBytes   = letters + digits + "_"
	plainBytes  = " !\"#$%&'()*+,-./0123456789:;<=>?@ABCDEFGHIJKLMNOPQRSTUVWXYZ[\\]^_`abcdefghijklmnopqrstuvwxyz{|}~"
	markBytes   = "(){},;:=<>+-*/%"

	mostName    = 16
	mostString  = 64
	mostSource  = 16384
	newline     = "\n"
	doubleQuote = `"`
)

func allKeywords() []string {
	return strings.Fields(keywordList)
}

func allMarks() []string {
	return strings.Fields(markList)
}

func nameOf(s string) api.Token {
	return api.Token{Kind: 1, Text: s}
}

func keywordOf(s string) api.Token {
	return api.Token{Kind: 2, Text: s}
}

func intOf(n int64) api.Token {
	return api.Token{Kind: 3, N: n}
}

func strOf(s string) api.Token {
	return api.Token{Kind: 4, Text: s}
}

func markOf(s string) api.Token {
	return api.Token{Kind: 5, Text: s}
}

// isNameText is the definition of a name.
func isNameText(s string) bool {
	return s != "" && len(s) <= mostName && strings.Trim(s, wordBytes) == "" && strings.Contains(letters, s[:1]) && !slices.Contains(allKeywords(), s)
}

// isPlainText is the definition of the contents of a literal.
func isPlainText(s string) bool {
	return len(s) <= mostString && strings.Trim(s, plainBytes) == ""
}

// isToken is the definition of a valid token.
func isToken(t api.Token) bool {
	t.Line = 0
	switch t {
	case nameOf(t.Text):
		return isNameText(t.Text)
	case keywordOf(t.Text):
		return slices.Contains(allKeywords(), t.Text)
	case intOf(t.N):
		return t.N >= 0
	case strOf(t.Text):
		return isPlainText(t.Text)
	case markOf(t.Text):
		return slices.Contains(allMarks(), t.Text)
	}
	return false
}

// literalOf is the definition of the literal with these contents.
func literalOf(s string) string {
	return doubleQuote + strings.NewReplacer(`"`, `\"`, `\`, `\\`).Replace(s) + doubleQuote
}

// textOfToken is the definition of the text of a valid token.
func textOfToken(t api.Token) string {
	switch t.Kind {
	case 3:
		return strconv.FormatInt(t.N, 10)
	case 4:
		return literalOf(t.Text)
	}
	return t.Text
}

// everyByte returns the strings of one byte.
func everyByte() []string {
	list := make([]string, 256)
	for i := range list {
		list[i] = string([]byte{byte(i)})
	}
	return list
}

// eachText calls f for all strings of up to most of the parts.
func eachText(parts []string, most int, f func(s string)) {
	f("")
	if most == 0 {
		return
	}
	for _, part := range parts {
		eachText(parts, most-1, func(s string) { f(s + part) })
	}
}

// onLine returns the tokens with this line.
func onLine(line int, l []api.Token) []api.Token {
	list := slices.Clone(l)
	for i := range list {
		list[i].Line = line
	}
	return list
}

// checkTokens requires tokens with the lines that they have.
func checkTokens(t *testing.T, src string, want ...api.Token) {
	t.Helper()
	if got, line, e := Tokenize(src); !slices.Equal(got, want) || line != 0 || e != api.OK {
		t.Fatalf("Tokenize(%q) = %v, %d, %d, want %v, 0, OK", src, got, line, e, want)
	}
}

// checkLine requires tokens that are all on the first line.
func checkLine(t *testing.T, src string, want ...api.Token) {
	t.Helper()
	checkTokens(t, src, onLine(1, want)...)
}

// checkError requires an error and its line, with which there are no tokens.
func checkError(t *testing.T, src string, line int, want api.Errno) {
	t.Helper()
	if got, gotLine, e := Tokenize(src); len(got) != 0 || gotLine != line || e != want {
		t.Fatalf("Tokenize(%q) = %v, %d, %d, want no token, %d, %d", src, got, gotLine, e, line, want)
	}
}

// checkAnywhere also requires what checkLine does with other tokens and comments on the same line, and on other lines.
func checkAnywhere(t *testing.T, src string, want ...api.Token) {
	t.Helper()
	checkLine(t, src, want...)
	x, mark := nameOf("x"), markOf(";")
	checkLine(t, "x "+src+"; x", slices.Concat([]api.Token{x}, want, []api.Token{mark, x})...)
	checkLine(t, ";"+src+"\t;", slices.Concat([]api.Token{mark}, want, []api.Token{mark})...)
	checkLine(t, ";"+src+"# "+src, slices.Concat([]api.Token{mark}, want)...)
	checkTokens(t, "\n\n"+src+"\n", onLine(3, want)...)
	checkTokens(t, "# x\n"+src+"#\nx", slices.Concat(onLine(2, want), onLine(3, []api.Token{x}))...)
}

// checkErrorAnywhere also requires what checkError does with other tokens, errors and comments around; behind is what does not make another error of it.
func checkErrorAnywhere(t *testing.T, src string, want api.Errno, behind ...string) {
	t.Helper()
	for _, end := range append([]string{""}, behind...) {
		checkError(t, src+end, 1, want)
		checkError(t, "x = 7; "+src+end, 1, want)
		checkError(t, "\t;"+src+end, 1, want)
		checkError(t, "\n \n"+src+end, 3, want)
		checkError(t, "x # \"\n"+src+end, 2, want)
	}
}

func TestP7_1IsKeyword(t *testing.T) {
	if n := len(allKeywords()); n != 25 {
		t.Fatalf("the test has %d keywords", n)
	}
	for _, s := range allKeywords() {
		if !IsKeyword(s) {
			t.Errorf("IsKeyword(%q) = false", s)
		}
		for _, b := range everyByte() {
			for _, other := range []string{s + b, b + s, s[1:] + b, b + s[1:], b + s[:len(s)-1]} {
				if got := IsKeyword(other); got != slices.Contains(allKeywords(), other) {
					t.Errorf("IsKeyword(%q) = %t", other, got)
				}
			}
		}
		for _, other := range append(allKeywords(), strings.ToUpper(s), s[:len(s)-1], s[1:]) {
			if got, pair := IsKeyword(s+other), s+other; got {
				t.Errorf("IsKeyword(%q) = %t", pair, got)
			}
		}
		if IsKeyword(strings.ToUpper(s)) {
			t.Errorf("IsKeyword(%q) = true", strings.ToUpper(s))
		}
	}
	for _, s := range append(allMarks(), "", " ", "x", "get", "lets", "var", "func", "true", "false", "nil", "while", "return", "mod", "set", "key", "string", "procedure", "integer", "proc let", "\xff", strings.Repeat("x", 1000)) {
		if IsKeyword(s) {
			t.Errorf("IsKeyword(%q) = true", s)
		}
	}
}

func checkName(t *testing.T, s string, want bool) {
	t.Helper()
	if got := IsName(s); got != want {
		t.Fatalf("IsName(%q) = %t", s, got)
	}
	if isNameText(s) != want {
		t.Fatalf("the test takes %q for a name: %t", s, !want)
	}
}

func TestP7_1IsName(t *testing.T) {
	long := strings.Repeat("k", mostName)
	for _, s := range []string{"a", "z", "x1", "x_", "a_1", "a0b9", "a__", "z9_", "get", "lets", "le", "proc1", "proc_", "pro", "nil", "true", "a_b_c", "letlet", long, long[1:] + "9", long[1:] + "_", "a" + strings.Repeat("_", mostName-1), "a" + strings.Repeat("9", mostName-1)} {
		checkName(t, s, true)
	}
	for _, s := range []string{"", "_", "_a", "0", "1", "1a", "9a", "A", "Ab", "aB", "a b", " a", "a ", "a-b", "a.b", "a/b", "a\n", "\na", "a\x00", "é", "aé", "éa", "a\xff", "\xff", "\xffa", "ａ", "a１", "aﬀ", "\u0161", "a\u0161", "a\U00010061", long + "k", long + "_", long + "9", strings.Repeat("k", 1000), long[1:] + "K", long[1:] + "\xff", "\"a\"", "+"} {
		checkName(t, s, false)
	}
	for _, s := range allKeywords() {
		checkName(t, s, false)
		checkName(t, s+"_", true)
	}
}

// TestP7_1IsNameEveryByte puts every byte at every place of words of all lengths up to MaxName and one more.
func TestP7_1IsNameEveryByte(t *testing.T) {
	for _, b := range everyByte() {
		for before := range mostName + 1 {
			for behind := range mostName + 1 - before {
				s := strings.Repeat("k", before) + b + strings.Repeat("k", behind)
				inside, first := strings.Contains(wordBytes, b), strings.Contains(letters, b)
				checkName(t, s, len(s) <= 16 && inside && (first || before > 0))
			}
		}
	}
}

// checkQuote requires the literal if s may be the contents of one, and otherwise an error, with which the literal is empty.
func checkQuote(t *testing.T, s string, want api.Errno) {
	t.Helper()
	literal := ""
	if want == api.OK {
		literal = literalOf(s)
	}
	if got, e := Quote(s); got != literal || e != want {
		t.Fatalf("Quote(%q) = %q, %d, want %q, %d", s, got, e, literal, want)
	}
}

func TestP7_1Quote(t *testing.T) {
	for _, c := range []struct{ s, want string }{
		{"", `""`}, {"a", `"a"`}, {`say "hi"`, `"say \"hi\""`}, {`"`, `"\""`}, {`\`, `"\\"`}, {`\\`, `"\\\\"`}, {`""`, `"\"\""`}, {`\"`, `"\\\""`}, {`"\`, `"\"\\"`},
		{" ", `" "`}, {" ~", `" ~"`}, {"# x", `"# x"`}, {`\n`, `"\\n"`}, {"'", `"'"`}, {"`", "\"`\""}, {"nil", `"nil"`}, {"7", `"7"`},
		{strings.Repeat("x", 64), `"` + strings.Repeat("x", 64) + `"`}, {strings.Repeat(`"`, 64), `"` + strings.Repeat(`\"`, 64) + `"`}, {strings.Repeat(`\`, 64), `"` + strings.Repeat(`\\`, 64) + `"`},
	} {
		if got, e := Quote(c.s); got != c.want || e != api.OK {
			t.Errorf("Quote(%q) = %q, %d, want %q, OK", c.s, got, e, c.want)
		}
	}
	for n := range mostString + 1 {
		for _, s := range []string{"x", doubleQuote, `\`, " ", "~"} {
			checkQuote(t, strings.Repeat(s, n), api.OK)
		}
	}
	for _, s := range []string{"\n", "\t", "\r", "\x00", "\x1f", "\x7f", "\x80", "\xff", "é", "日本", "a\n", "\na", "\"\x1f", "\\\x7f", strings.Repeat("\x1f", 64), strings.Repeat("é", 32)} {
		checkQuote(t, s, api.ErrArg)
	}
	for _, s := range []string{"x", doubleQuote, `\`, " ", "\n", "\x00", "\xff"} {
		checkQuote(t, strings.Repeat(s, 65), api.ErrLimit)
		checkQuote(t, strings.Repeat(s, 1000), api.ErrLimit)
	}
	checkQuote(t, strings.Repeat("é", 33), api.ErrLimit)
}

// TestP7_1QuoteEveryByte puts every byte at every place of strings of MaxStr bytes, of one more and of one less.
func TestP7_1QuoteEveryByte(t *testing.T) {
	count := 0
	for _, b := range everyByte() {
		want := api.ErrArg
		if b >= " " && b <= "~" {
			want = api.OK
			count++
		}
		checkQuote(t, b, want)
		checkQuote(t, b+b, want)
		for _, n := range []int{mostString - 2, mostString - 1} {
			for before := range n + 1 {
				checkQuote(t, strings.Repeat("k", before)+b+strings.Repeat("k", n-before), want)
			}
		}
		for before := range mostString + 1 {
			checkQuote(t, strings.Repeat("k", before)+b+strings.Repeat("k", mostString-before), api.ErrLimit)
		}
	}
	if count != 95 {
		t.Errorf("%d bytes may stand in a literal", count)
	}
}

func TestP7_2Examples(t *testing.T) {
	checkLine(t, "let x=10; # ten", keywordOf("let"), nameOf("x"), markOf("="), intOf(10), markOf(";"))
	checkError(t, "a\n1x", 2, api.ErrSyntax)
	checkError(t, "007", 1, api.ErrSyntax)
	checkError(t, "!", 1, api.ErrSyntax)
	checkLine(t, "a+++b", nameOf("a"), markOf("++"), markOf("+"), nameOf("b"))
	checkLine(t, `"say \"hi\""`, strOf(`say "hi"`))
	checkTokens(t, "proc add(k: str, n: int) {\n    put k = getint(k) + n;\n}", slices.Concat(
		onLine(1, []api.Token{keywordOf("proc"), nameOf("add"), markOf("("), nameOf("k"), markOf(":"), keywordOf("str"), markOf(","), nameOf("n"), markOf(":"), keywordOf("int"), markOf(")"), markOf("{")}),
		onLine(2, []api.Token{keywordOf("put"), nameOf("k"), markOf("="), keywordOf("getint"), markOf("("), nameOf("k"), markOf(")"), markOf("+"), nameOf("n"), markOf(";")}),
		onLine(3, []api.Token{markOf("}")}))...)
}

// TestP7_2NoToken tokenizes texts of spaces, tabs, line feeds and comments alone.
func TestP7_2NoToken(t *testing.T) {
	eachText([]string{" ", "\t", "\n", "#", "# a \"b", "#\n", "## !\x00\xff é\r\n"}, 5, func(s string) { checkTokens(t, s) })
	for _, b := range everyByte() {
		checkTokens(t, "#"+b)
		checkTokens(t, " #a"+b+"\n")
		checkTokens(t, "#"+b+b+"\n#"+b)
		if b != "\n" {
			checkTokens(t, "#"+b+"x\ny#"+b+"z\n", onLine(2, []api.Token{nameOf("y")})...)
			checkTokens(t, "#"+strings.Repeat(b, 100)+"x\"\ny", onLine(2, []api.Token{nameOf("y")})...)
		}
	}
	checkTokens(t, "#\nx", onLine(2, []api.Token{nameOf("x")})...)
	checkLine(t, "x#", nameOf("x"))
	checkLine(t, "x#y", nameOf("x"))
	checkLine(t, "x # y # z", nameOf("x"))
	checkLine(t, "#x")
}

// TestP7_2Between puts every byte between two tokens.
func TestP7_2Between(t *testing.T) {
	x, y := nameOf("x"), nameOf("y")
	for _, b := range everyByte() {
		src := "x" + b + "y"
		switch {
		case b == " " || b == "\t":
			checkLine(t, src, x, y)
		case b == "\n":
			checkTokens(t, src, api.Token{Kind: 1, Text: "x", Line: 1}, api.Token{Kind: 1, Text: "y", Line: 2})
		case b == "#":
			checkLine(t, src, x)
		case b == doubleQuote:
			checkError(t, src, 1, api.ErrTruncated)
		case strings.Contains(wordBytes, b):
			checkLine(t, src, nameOf(src))
		case strings.Contains(markBytes, b):
			checkLine(t, src, x, markOf(b), y)
		default:
			checkError(t, src, 1, api.ErrSyntax)
		}
	}
	for _, gap := range []string{" ", "\t", "  ", " \t ", "\t\t"} {
		checkLine(t, gap+"x"+gap+"y"+gap, x, y)
	}
}

// TestP7_2EveryByte begins a token with every byte.
func TestP7_2EveryByte(t *testing.T) {
	wrong := 0
	for _, b := range everyByte() {
		switch {
		case strings.Contains(" \t\n#", b):
			checkTokens(t, b)
		case strings.Contains(letters, b):
			checkAnywhere(t, b, nameOf(b))
		case strings.Contains(digits, b):
			checkAnywhere(t, b, intOf(int64(b[0]-'0')))
		case strings.Contains(markBytes, b):
			checkAnywhere(t, b, markOf(b))
		case b == doubleQuote:
			checkErrorAnywhere(t, b, api.ErrTruncated)
		default:
			wrong++
			checkErrorAnywhere(t, b, api.ErrSyntax, " ", "\n", "x", "7", b, doubleQuote, ";", "é", "#")
			checkError(t, "7+"+b, 1, api.ErrSyntax)
			checkError(t, `""`+b, 1, api.ErrSyntax)
		}
	}
	if wrong != 256-4-26-10-15-1 {
		t.Errorf("%d bytes begin no token", wrong)
	}
}

func TestP7_2Keywords(t *testing.T) {
	for _, a := range allKeywords() {
		checkAnywhere(t, a, keywordOf(a))
		checkLine(t, a+"_", nameOf(a+"_"))
		checkLine(t, a+"9", nameOf(a+"9"))
		checkLine(t, a+"x", nameOf(a+"x"))
		checkLine(t, a[:1]+"_"+a[1:], nameOf(a[:1]+"_"+a[1:]))
		checkLine(t, a+`""`, keywordOf(a), strOf(""))
		checkLine(t, `""`+a, strOf(""), keywordOf(a))
		checkError(t, "7"+a, 1, api.ErrSyntax)
		checkError(t, "_"+a, 1, api.ErrSyntax)
		checkError(t, strings.ToUpper(a), 1, api.ErrSyntax)
		for _, b := range allKeywords() {
			checkLine(t, a+b, nameOf(a+b))
			checkLine(t, a+" "+b, keywordOf(a), keywordOf(b))
			checkLine(t, a+"\t"+b+"#"+a, keywordOf(a), keywordOf(b))
			checkTokens(t, a+"\n"+b, api.Token{Kind: 2, Text: a, Line: 1}, api.Token{Kind: 2, Text: b, Line: 2})
		}
		for _, b := range allMarks() {
			checkLine(t, a+b+a, keywordOf(a), markOf(b), keywordOf(a))
		}
	}
}

// marksOf divides s, which consists of marks and exclamation marks, into the longest marks, or returns false.
func marksOf(s string) ([]api.Token, bool) {
	var list []api.Token
	for s != "" {
		longest := ""
		for _, m := range allMarks() {
			if strings.HasPrefix(s, m) && len(m) > len(longest) {
				longest = m
			}
		}
		if longest == "" {
			return nil, false
		}
		list = append(list, markOf(longest))
		s = s[len(longest):]
	}
	return list, true
}

func TestP7_2Marks(t *testing.T) {
	if n := len(allMarks()); n != 20 {
		t.Fatalf("the test has %d marks", n)
	}
	for _, m := range allMarks() {
		checkAnywhere(t, m, markOf(m))
		checkLine(t, "x"+m+"7", nameOf("x"), markOf(m), intOf(7))
		checkLine(t, "7"+m+"x", intOf(7), markOf(m), nameOf("x"))
		checkLine(t, `"a"`+m+`"b"`, strOf("a"), markOf(m), strOf("b"))
		checkError(t, m+"!", 1, api.ErrSyntax)
		checkError(t, m+"_", 1, api.ErrSyntax)
		checkError(t, m+"\xff", 1, api.ErrSyntax)
	}
	for _, c := range []struct{ src, want string }{
		{"===", "== ="}, {"====", "== =="}, {"!==", "!= ="}, {"=!=", "= !="}, {"<==", "<= ="}, {">==", ">= ="}, {"=<", "= <"}, {"=>", "= >"}, {"<>", "< >"}, {"><", "> <"}, {"<<", "< <"}, {">>", "> >"}, {"<<=", "< <="}, {">>=", "> >="},
		{"+++", "++ +"}, {"++++", "++ ++"}, {"+++++", "++ ++ +"}, {"+=", "+ ="}, {"++=", "++ ="}, {"=+", "= +"}, {"--", "- -"}, {"-=", "- ="}, {"**", "* *"}, {"//", "/ /"}, {"%%", "% %"}, {"&", ""}, {"()", "( )"}, {"{}", "{ }"}, {"::", ": :"}, {":=", ": ="}, {";;", "; ;"}, {",,", ", ,"},
		{"+ +", "+ +"}, {"= =", "= ="}, {"< =", "< ="}, {"+\t+", "+ +"}, {"(==!=<=>=)", "( == != <= >= )"},
	} {
		var want []api.Token
		for _, m := range strings.Fields(c.want) {
			want = append(want, markOf(m))
		}
		if want == nil {
			checkError(t, c.src, 1, api.ErrSyntax)
		} else {
			checkLine(t, c.src, want...)
		}
	}
	for _, s := range []string{"!", "! =", "!x", "!(", "!!=", "=!", "==!", "!+", "!\n=", "!", "&&", "|", "||", "^", "~", "?", "@", "$", "[", "]", ".", "'", "`", "\\", "+\\"} {
		checkError(t, s, 1, api.ErrSyntax)
	}
	checkTokens(t, "+\n+", api.Token{Kind: 5, Text: "+", Line: 1}, api.Token{Kind: 5, Text: "+", Line: 2})
	eachText(append(strings.Split(markBytes, ""), "!", "==", "!=", "<=", ">=", "++"), 4, func(s string) {
		if want, ok := marksOf(s); ok {
			checkLine(t, s, want...)
		} else {
			checkError(t, s, 1, api.ErrSyntax)
		}
	})
}

func TestP7_2Names(t *testing.T) {
	long := strings.Repeat("k", mostName)
	for _, s := range []string{"a", "z", "x1", "x_", "a_1", "a0b9", "a__", "lets", "le", "proc1", "let_", "nil", "a_b_c", long, long[1:] + "9", long[1:] + "_", "z" + strings.Repeat("_", mostName-1), "a" + strings.Repeat("0", mostName-1)} {
		checkAnywhere(t, s, nameOf(s))
	}
	for _, s := range []string{long + "k", long + "_", long + "0", "a" + strings.Repeat("_", mostName), "a" + strings.Repeat("9", mostName), "getint" + long, strings.Repeat("let", 6), strings.Repeat("k", 1000)} {
		checkErrorAnywhere(t, s, api.ErrLimit, " ", "\n", ";", "x", "7", "_", "!", "\xff", "é", "A", doubleQuote, "#")
	}
	for _, s := range []string{"A", "Ab", "aB", "a.b", "a\r", "é", "aé", "éa", "a\xff", "\xffa", "a\x00b", "ａ", "a１", "ſ", "a\u0161", "\u0161", "a\U00010061", "a\u2028b", "a\u00a0b", "a\u0085b", "a\vb", "a\fb"} {
		checkErrorAnywhere(t, s, api.ErrSyntax, " ", "\n", ";", "x", doubleQuote)
	}
	checkErrorAnywhere(t, long+"\xff", api.ErrSyntax, "x")
	checkErrorAnywhere(t, long+"K", api.ErrSyntax, "x")
	for _, s := range []string{"_", "__", "_a", "_1", "_let", "_" + long, strings.Repeat("_", 100)} {
		checkErrorAnywhere(t, s, api.ErrSyntax, " ", "\n", ";", "x", "7", "_", doubleQuote)
	}
}

// TestP7_2WordEveryByte puts every byte at every place of words of MaxName bytes.
func TestP7_2WordEveryByte(t *testing.T) {
	for _, b := range everyByte() {
		for before := 1; before < mostName; before++ {
			start, end := strings.Repeat("k", before), strings.Repeat("k", mostName-1-before)
			tail := []api.Token{}
			if end != "" {
				tail = append(tail, nameOf(end))
			}
			switch {
			case strings.Contains(wordBytes, b):
				checkLine(t, start+b+end, nameOf(start+b+end))
				checkError(t, start+b+end+"k", 1, api.ErrLimit)
				checkError(t, start+end+"k"+b, 1, api.ErrLimit)
			case strings.Contains(markBytes, b):
				checkLine(t, start+b+end, slices.Concat([]api.Token{nameOf(start), markOf(b)}, tail)...)
			case b == " " || b == "\t":
				checkLine(t, start+b+end, slices.Concat([]api.Token{nameOf(start)}, tail)...)
			case b == "\n":
				checkTokens(t, start+b+end, slices.Concat(onLine(1, []api.Token{nameOf(start)}), onLine(2, tail))...)
			case b == "#":
				checkLine(t, start+b+end, nameOf(start))
			case b == doubleQuote:
				checkError(t, start+b+end, 1, api.ErrTruncated)
			default:
				checkError(t, start+b+end, 1, api.ErrSyntax)
			}
		}
	}
}

func TestP7_2Numbers(t *testing.T) {
	list := []int64{0, 1, 9, 10, 99, 100, 101, math.MaxInt64 - 1, math.MaxInt64}
	for shift := range 63 {
		list = append(list, 1<<shift-1, 1<<shift, 1<<shift+1)
	}
	for p := int64(1); p < math.MaxInt64/10; p *= 10 {
		list = append(list, p-1, p, p+1, p*7)
	}
	for _, n := range list {
		checkAnywhere(t, strconv.FormatInt(n, 10), intOf(n))
		checkLine(t, "-"+strconv.FormatInt(n, 10), markOf("-"), intOf(n))
		checkErrorAnywhere(t, "0"+strconv.FormatInt(n, 10), api.ErrSyntax, " ", "x", ";")
		checkErrorAnywhere(t, strconv.FormatInt(n, 10)+"_", api.ErrSyntax, "", "0", "x")
	}
	checkAnywhere(t, "9223372036854775807", intOf(math.MaxInt64))
	checkLine(t, "7+7", intOf(7), markOf("+"), intOf(7))
	checkLine(t, `7"a"7`, intOf(7), strOf("a"), intOf(7))
	checkLine(t, "10 20\t30", intOf(10), intOf(20), intOf(30))
	for _, s := range []string{"9223372036854775808", "-9223372036854775808", "9223372036854775810", "9999999999999999999", "10000000000000000000", "18446744073709551615", "18446744073709551616", "18446744073709551617", strings.Repeat("9", 100), "1" + strings.Repeat("0", 1000)} {
		checkErrorAnywhere(t, s, api.ErrOverflow, " ", "\n", ";", "!", "A", "\xff", doubleQuote, "0")
		checkErrorAnywhere(t, s+"x", api.ErrSyntax)
		checkErrorAnywhere(t, s+"_", api.ErrSyntax)
	}
	checkError(t, strings.Repeat("9", mostSource), 1, api.ErrOverflow)
	checkError(t, strings.Repeat("9", mostSource-1)+"x", 1, api.ErrSyntax)
	checkError(t, "0"+strings.Repeat("9", mostSource-1), 1, api.ErrSyntax)
	for _, s := range []string{"00", "01", "007", "000", "0_", "0x", "0x1f", "0b1", "1x", "1_", "1_000", "1e3", "9a9", "10a", "1" + strings.Repeat("a", 30), "0" + strings.Repeat("0", 30), "09223372036854775808", "1a_b", "1let"} {
		checkErrorAnywhere(t, s, api.ErrSyntax, " ", "\n", ";", "x", "7", "_", doubleQuote)
	}
	for _, s := range []string{"1.5", "1A", "1é", "1\xff", "１", "1１", "0\x00", "1\r"} {
		checkErrorAnywhere(t, s, api.ErrSyntax, " ", "7")
	}
}

// TestP7_2NumberEveryByte puts every byte directly behind numbers.
func TestP7_2NumberEveryByte(t *testing.T) {
	for _, b := range everyByte() {
		switch {
		case strings.Contains(digits, b):
			checkLine(t, "1"+b, intOf(10+int64(b[0]-'0')))
			checkLine(t, "92233720368547758"+b, intOf(922337203685477580+int64(b[0]-'0')))
			checkError(t, "0"+b, 1, api.ErrSyntax)
		case strings.Contains(wordBytes, b):
			checkError(t, "1"+b, 1, api.ErrSyntax)
			checkError(t, "0"+b, 1, api.ErrSyntax)
			checkError(t, "9223372036854775808"+b, 1, api.ErrSyntax)
		case strings.Contains(markBytes, b):
			checkLine(t, "1"+b, intOf(1), markOf(b))
			checkLine(t, "0"+b+"0", intOf(0), markOf(b), intOf(0))
		case strings.Contains(" \t\n#", b):
			checkLine(t, "1"+b, intOf(1))
		case b == doubleQuote:
			checkError(t, "1"+b, 1, api.ErrTruncated)
		default:
			checkError(t, "1"+b, 1, api.ErrSyntax)
		}
	}
}

func TestP7_2Literals(t *testing.T) {
	for _, c := range []struct{ src, want string }{
		{`""`, ""}, {`"a"`, "a"}, {`" "`, " "}, {`" ~"`, " ~"}, {`"\""`, `"`}, {`"\\"`, `\`}, {`"a\"b"`, `a"b`}, {`"a\\b"`, `a\b`}, {`"\"a"`, `"a`}, {`"\\a"`, `\a`}, {`"a\""`, `a"`}, {`"a\\"`, `a\`},
		{`"\\\""`, `\"`}, {`"\"\\"`, `"\`}, {`"\\\\"`, `\\`}, {`"\"\""`, `""`}, {`"\\n"`, `\n`}, {`"# x"`, "# x"}, {`"let"`, "let"}, {`"7"`, "7"}, {`"'"`, "'"}, {`"+!A_"`, "+!A_"}, {`"say \"hi\""`, `say "hi"`},
	} {
		checkAnywhere(t, c.src, strOf(c.want))
	}
	for n := range mostString + 1 {
		for _, s := range []string{"x", doubleQuote, `\`, " ", "~", "#", "0"} {
			checkAnywhere(t, literalOf(strings.Repeat(s, n)), strOf(strings.Repeat(s, n)))
		}
		checkAnywhere(t, literalOf(strings.Repeat(`"\`, n/2)), strOf(strings.Repeat(`"\`, n/2)))
	}
	checkLine(t, `"""a""b"`, strOf(""), strOf("a"), strOf("b"))
	checkLine(t, `"a\\""b"`, strOf(`a\`), strOf("b"))
	checkLine(t, `x"y"z`, nameOf("x"), strOf("y"), nameOf("z"))
	checkLine(t, `"a"7`, strOf("a"), intOf(7))
	checkLine(t, `"a"let`, strOf("a"), keywordOf("let"))
	checkLine(t, `"a"++"b"`, strOf("a"), markOf("++"), strOf("b"))
	checkLine(t, `"a"#"b`, strOf("a"))
	checkTokens(t, "\"a\"\n\"b\"", api.Token{Kind: 4, Text: "a", Line: 1}, api.Token{Kind: 4, Text: "b", Line: 2})
}

// TestP7_2LiteralTruncated ends texts at each place of a literal.
func TestP7_2LiteralTruncated(t *testing.T) {
	most := strings.Repeat("x", mostString)
	for _, s := range []string{`""`, `"a"`, `"\""`, `"\\"`, `"a\"b\\c"`, `"say \"hi\""`, `"# \\\\\" #"`, `"` + most + `"`, literalOf(strings.Repeat(`"`, mostString)), literalOf(strings.Repeat(`\`, mostString)), `"` + most[1:] + `\""`} {
		for end := 1; end < len(s); end++ {
			checkErrorAnywhere(t, s[:end], api.ErrTruncated)
			checkError(t, "x;\n# y\n\n  "+s[:end], 4, api.ErrTruncated)
		}
	}
	for _, s := range []string{`"`, `"\`, `"a\`, `"\\\`, `"\"`, `"a\"`, `"\\\"`, `"""`, `"a""`, `"a"b"`, `"let x = 10; # ten`, `"` + most, `"` + most + `\`} {
		checkErrorAnywhere(t, s, api.ErrTruncated)
	}
}

// TestP7_2LiteralEveryByte puts every byte at every place of a literal, with and without a backslash.
func TestP7_2LiteralEveryByte(t *testing.T) {
	for _, b := range everyByte() {
		special := b == doubleQuote || b == `\`
		for before := range mostString {
			start, end := strings.Repeat("k", before), strings.Repeat("k", mostString-1-before)
			switch {
			case b == `\`:
				want := api.ErrSyntax
				if end == "" {
					want = api.ErrTruncated // the backslash belongs to the quote
				}
				checkErrorAnywhere(t, doubleQuote+start+b+end+doubleQuote, want)
			case b == doubleQuote:
				checkLine(t, doubleQuote+start+b+"+", strOf(start), markOf("+"))
				checkError(t, doubleQuote+start+b+doubleQuote+end, 1, api.ErrTruncated)
			case strings.Contains(plainBytes, b):
				checkLine(t, doubleQuote+start+b+end+doubleQuote, strOf(start+b+end))
			default:
				checkErrorAnywhere(t, doubleQuote+start+b, api.ErrSyntax, end, end+doubleQuote, "\n\"", "\"\n")
			}
			if special {
				checkLine(t, doubleQuote+start+`\`+b+end+doubleQuote, strOf(start+b+end))
			} else {
				checkErrorAnywhere(t, doubleQuote+start+`\`+b, api.ErrSyntax, end, end+doubleQuote, "\n\"", "\"\n")
			}
		}
	}
}

// TestP7_2LiteralLimit finds the first byte with which there are too many, or one before it that is an error.
func TestP7_2LiteralLimit(t *testing.T) {
	for _, c := range []struct{ char, plain string }{{"x", "x"}, {" ", " "}, {`\"`, doubleQuote}, {`\\`, `\`}} {
		most, contents := strings.Repeat(c.char, mostString), strings.Repeat(c.plain, mostString)
		checkAnywhere(t, doubleQuote+most+doubleQuote, strOf(contents))
		checkAnywhere(t, `"a`+most[len(c.char):]+doubleQuote, strOf("a"+contents[1:]))
		checkErrorAnywhere(t, doubleQuote+most, api.ErrTruncated)
		checkErrorAnywhere(t, doubleQuote+most+`\`, api.ErrTruncated)
		for _, more := range []string{"x", " ", "~", `\"`, `\\`} {
			checkErrorAnywhere(t, doubleQuote+most+more, api.ErrLimit, doubleQuote, `\"`, "x", `\a`, "\n", "\n\"", "\x7f", "\xff\"", "é", `\`, strings.Repeat("x", 100))
			checkErrorAnywhere(t, doubleQuote+more+most, api.ErrLimit, doubleQuote, "\n", `\`)
		}
		for _, wrong := range []string{"\n", "\t", "\x00", "\x1f", "\x7f", "\x80", "\xff", "é", `\a`, `\n`, `\ `, "\\\n", "\\\x7f", "\\\xff"} {
			checkErrorAnywhere(t, doubleQuote+most+wrong, api.ErrSyntax, doubleQuote, "x", `\`)
			checkErrorAnywhere(t, doubleQuote+wrong+most+"x", api.ErrSyntax, doubleQuote)
		}
	}
	checkErrorAnywhere(t, doubleQuote+strings.Repeat("x", 10000), api.ErrLimit, doubleQuote)
}

func TestP7_2LiteralLineFeed(t *testing.T) {
	for _, s := range []string{"\"\n\"", "\"a\nb\"", "\"a\n", "\"\n", "\"\\\n\"", "\"\\\n", "\"a\\\\\nb\"", "\"a\r\nb\""} {
		checkErrorAnywhere(t, s, api.ErrSyntax, "x", "\n", doubleQuote)
		checkError(t, "x\n\n"+s, 3, api.ErrSyntax)
	}
}

// TestP7_2Lines counts lines in tokens and errors.
func TestP7_2Lines(t *testing.T) {
	checkTokens(t, "a\nb\n\n c\n\t\nd", api.Token{Kind: 1, Text: "a", Line: 1}, api.Token{Kind: 1, Text: "b", Line: 2}, api.Token{Kind: 1, Text: "c", Line: 4}, api.Token{Kind: 1, Text: "d", Line: 6})
	checkTokens(t, "# a\nb # c\n# d\n\n7 #\n\"#\" ;# e\n#\n++", api.Token{Kind: 1, Text: "b", Line: 2}, api.Token{Kind: 3, N: 7, Line: 5}, api.Token{Kind: 4, Text: "#", Line: 6}, api.Token{Kind: 5, Text: ";", Line: 6}, api.Token{Kind: 5, Text: "++", Line: 8})
	for n := range 50 {
		for _, gap := range []string{"\n", "#\n", "# \"x\"\n", " \n", "\t\n", "x\n", "7;\n", "\"\\\"\"\n", "let#\n"} {
			before := strings.Repeat(gap, n)
			for _, s := range []string{"x", "let", "7", "\"a\"", "+"} {
				got, line, e := Tokenize(before + s)
				if len(got) == 0 || got[len(got)-1].Line != n+1 || line != 0 || e != api.OK {
					t.Fatalf("Tokenize(%q) = %v, %d, %d", before+s, got, line, e)
				}
				checkError(t, before+s+"!", n+1, api.ErrSyntax)
				checkError(t, before+s+"\n!\n", n+2, api.ErrSyntax)
			}
			checkError(t, before+doubleQuote, n+1, api.ErrTruncated)
			checkError(t, before+"\"\n", n+1, api.ErrSyntax)
			checkError(t, before+"007\n", n+1, api.ErrSyntax)
			checkError(t, before+strings.Repeat("9", 20)+"\n", n+1, api.ErrOverflow)
			checkError(t, before+strings.Repeat("k", 17)+"\n", n+1, api.ErrLimit)
			checkError(t, before+doubleQuote+strings.Repeat("k", 65)+"\n", n+1, api.ErrLimit)
			checkError(t, before+"_\n", n+1, api.ErrSyntax)
		}
	}
	checkTokens(t, strings.Repeat("\n", mostSource-1)+"x", api.Token{Kind: 1, Text: "x", Line: mostSource})
	checkError(t, strings.Repeat("\n", mostSource-1)+"!", mostSource, api.ErrSyntax)
}

// TestP7_2FirstError puts one error behind another.
func TestP7_2FirstError(t *testing.T) {
	list := []struct {
		src  string
		want api.Errno
	}{
		{"007", api.ErrSyntax}, {"1x", api.ErrSyntax}, {"_", api.ErrSyntax}, {"!", api.ErrSyntax}, {"A", api.ErrSyntax}, {"\xff", api.ErrSyntax}, {`"\a"`, api.ErrSyntax}, {"\"\x7f\"", api.ErrSyntax},
		{strings.Repeat("9", 19), api.ErrOverflow}, {strings.Repeat("k", 17), api.ErrLimit}, {doubleQuote + strings.Repeat("k", 65) + doubleQuote, api.ErrLimit},
	}
	for _, a := range list {
		for _, b := range list {
			checkError(t, a.src+" "+b.src, 1, a.want)
			checkError(t, a.src+"\n"+b.src, 1, a.want)
			checkError(t, "x\n"+a.src+"\n\n"+b.src, 2, a.want)
			checkError(t, "# "+a.src+"\n"+b.src, 2, b.want)
			checkError(t, "x "+a.src+" \"", 1, a.want)
		}
	}
}

// TestP7_2Source tokenizes texts of MaxSource bytes and of one byte more.
func TestP7_2Source(t *testing.T) {
	for _, c := range []struct {
		s     string
		count int
	}{
		{" ", 0}, {"\n", 0}, {"\t", 0}, {"#", 0}, {"x ", 8192}, {"x\n", 8192}, {"7;", 16384}, {`""`, 8192}, {"+(", 16384}, {"let ", 4096}, {"\"a\"\n", 4096}, {"# x\n", 0},
	} {
		src := strings.Repeat(c.s, mostSource/len(c.s))
		got, line, e := Tokenize(src)
		if len(src) != mostSource || len(got) != c.count || line != 0 || e != api.OK {
			t.Errorf("Tokenize of %q, repeated, has %d tokens, line %d, error %d", c.s, len(got), line, e)
		}
		for _, more := range []string{" ", "\n", "x", "#", "!", doubleQuote, "\xff"} {
			checkError(t, src+more, 0, api.ErrLimit)
			checkError(t, more+src, 0, api.ErrLimit)
		}
		checkError(t, src+src, 0, api.ErrLimit)
	}
	for _, s := range []string{"!", "_", "\xff", doubleQuote, "1x", "\n!", strings.Repeat("k", 17)} {
		checkError(t, s+strings.Repeat(" ", mostSource+1-len(s)), 0, api.ErrLimit)
	}
	checkError(t, "!"+strings.Repeat(" ", mostSource-1), 1, api.ErrSyntax)
	checkError(t, strings.Repeat(" ", mostSource-1)+"!", 1, api.ErrSyntax)
	checkLine(t, strings.Repeat(" ", mostSource-1)+"x", nameOf("x"))
	checkError(t, strings.Repeat("!", mostSource+1), 0, api.ErrLimit)
	checkError(t, strings.Repeat("x", 1<<20), 0, api.ErrLimit)
}

// definition tokenizes by regular expressions.
type definition struct {
	gap, word, literal, mark *regexp.Regexp
}

func newDefinition() definition {
	return definition{
		gap:     regexp.MustCompile(`\A([ \t\n]|#[^\n]*)+`),
		word:    regexp.MustCompile(`\A[a-z0-9_]+`),
		literal: regexp.MustCompile(`\A"([ !#-\[\]-~]|\\["\\])*`),
		mark:    regexp.MustCompile(`\A([!=<>]=|\+\+|[(){},;:=<>+*/%-])`),
	}
}

// first returns the first token of s, which does not begin with a gap, and its text.
func (d definition) first(s string) (api.Token, string, api.Errno) {
	if begin := d.literal.FindString(s); begin != "" {
		contents := strings.NewReplacer(`\"`, doubleQuote, `\\`, `\`).Replace(begin[1:])
		behind := s[len(begin):]
		switch {
		case len(contents) > mostString:
			return api.Token{}, "", api.ErrLimit
		case behind == "" || behind == `\`:
			return api.Token{}, "", api.ErrTruncated
		case behind[0] != '"':
			return api.Token{}, "", api.ErrSyntax
		}
		return strOf(contents), begin + doubleQuote, api.OK
	}
	if mark := d.mark.FindString(s); mark != "" {
		return markOf(mark), mark, api.OK
	}
	word := d.word.FindString(s)
	number, isNumber := new(big.Int).SetString(word, 10)
	switch {
	case slices.Contains(allKeywords(), word):
		return keywordOf(word), word, api.OK
	case isNameText(word):
		return nameOf(word), word, api.OK
	case word != "" && strings.Contains(letters, word[:1]):
		return api.Token{}, "", api.ErrLimit
	case !isNumber || number.String() != word:
		return api.Token{}, "", api.ErrSyntax
	case !number.IsInt64():
		return api.Token{}, "", api.ErrOverflow
	}
	return intOf(number.Int64()), word, api.OK
}

// tokens is the definition of the result of Tokenize.
func (d definition) tokens(src string) ([]api.Token, int, api.Errno) {
	if len(src) > mostSource {
		return nil, 0, api.ErrLimit
	}
	var list []api.Token
	for at := 0; ; {
		at += len(d.gap.FindString(src[at:]))
		if at == len(src) {
			return list, 0, api.OK
		}
		line := strings.Count(src[:at], newline) + 1
		token, text, e := d.first(src[at:])
		if e != api.OK {
			return nil, line, e
		}
		token.Line = line
		list = append(list, token)
		at += len(text)
	}
}

// checkDefinition compares the result of Tokenize with its definition, and returns the number of tokens.
func checkDefinition(t *testing.T, d definition, src string) int {
	t.Helper()
	want, wantLine, wantE := d.tokens(src)
	got, line, e := Tokenize(src)
	if !slices.Equal(got, want) || line != wantLine || e != wantE {
		t.Fatalf("Tokenize(%q) = %v, %d, %d, want %v, %d, %d", src, got, line, e, want, wantLine, wantE)
	}
	for _, token := range got {
		if !isToken(token) || token.Line < 1 {
			t.Fatalf("Tokenize(%q) returns %v", src, token)
		}
	}
	return len(got)
}

func TestP7_2AllShortTexts(t *testing.T) {
	d, count := newDefinition(), 0
	check := func(s string) { count += checkDefinition(t, d, s) }
	eachText([]string{"a", "let", "to", "_", "0", "7", strings.Repeat("8", 18), strings.Repeat("k", 15), "+", "=", "<", "!", ";", doubleQuote, `\`, strings.Repeat("x", 63), " ", "\n", "#", "A", "\x7f", "\xff", "é"}, 4, check)
	eachText([]string{"a", "7", "=", doubleQuote, `\`, "\n", "#", "\x80"}, 6, check)
	eachText([]string{doubleQuote, `\`, "x", strings.Repeat("x", 62), `\"`, "\n"}, 7, check)
	if count < 100000 {
		t.Errorf("only %d tokens", count)
	}
}

// TestP7_2LongTexts tokenizes texts without a pattern.
func TestP7_2LongTexts(t *testing.T) {
	d, count, x := newDefinition(), 0, uint64(1)
	parts := slices.Concat(allKeywords(), allMarks(), []string{"a", "x1", "y_", "0", "12", "9223372036854775807", `""`, `"a\"b\\"`, "\n", "# a\n", "#\"\n", "\t"})
	for i := range 2000 {
		src := ""
		for range i % 100 {
			x ^= x << 13
			x ^= x >> 7
			x ^= x << 17
			src += parts[x%uint64(len(parts))]
			if x>>32%8 != 0 {
				src += " "
			}
		}
		count += checkDefinition(t, d, src)
		count += checkDefinition(t, d, src+strings.Repeat(" ", i%3)+everyByte()[i%256])
	}
	if count < 10000 {
		t.Errorf("only %d tokens", count)
	}
}

func checkJoin(t *testing.T, want string, l ...api.Token) {
	t.Helper()
	if got, e := Join(l); got != want || e != api.OK {
		t.Fatalf("Join(%v) = %q, %d, want %q, OK", l, got, e, want)
	}
}

// checkJoinError requires an error, with which the text is empty.
func checkJoinError(t *testing.T, want api.Errno, l ...api.Token) {
	t.Helper()
	if got, e := Join(l); got != "" || e != want {
		t.Fatalf("Join(%v) = %q, %d, want an empty string, %d", l, got, e, want)
	}
}

// someTokens are valid tokens of all kinds.
func someTokens() []api.Token {
	list := []api.Token{nameOf("a"), nameOf("x_1"), nameOf("lets"), nameOf(strings.Repeat("k", mostName)), nameOf("a" + strings.Repeat("_", mostName-1)), intOf(0), intOf(1), intOf(10), intOf(math.MaxInt64)}
	for _, s := range allKeywords() {
		list = append(list, keywordOf(s), nameOf(s+"_"), strOf(s))
	}
	for _, s := range allMarks() {
		list = append(list, markOf(s), strOf(s))
	}
	for _, s := range []string{"", " ", "a", doubleQuote, `\`, `say "hi"`, `\"`, `\\`, "# x", "nil", strings.Repeat("x", mostString), strings.Repeat(doubleQuote, mostString), strings.Repeat(`\`, mostString)} {
		list = append(list, strOf(s))
	}
	return list
}

func TestP7_3Join(t *testing.T) {
	checkJoin(t, "")
	checkJoin(t, "", []api.Token{}...)
	for _, c := range []struct {
		token api.Token
		want  string
	}{
		{nameOf("x"), "x"}, {nameOf("x_1"), "x_1"}, {keywordOf("let"), "let"}, {markOf("++"), "++"}, {intOf(0), "0"}, {intOf(12), "12"}, {intOf(math.MaxInt64), "9223372036854775807"},
		{strOf(""), `""`}, {strOf("a b"), `"a b"`}, {strOf(`a"b`), `"a\"b"`}, {strOf(`\`), `"\\"`}, {strOf("let"), `"let"`}, {strOf("7"), `"7"`}, {strOf(strings.Repeat(doubleQuote, 64)), `"` + strings.Repeat(`\"`, 64) + `"`},
	} {
		checkJoin(t, c.want, c.token)
		checkJoin(t, c.want+" "+c.want, c.token, c.token)
		checkJoin(t, "x "+c.want+" ;", nameOf("x"), c.token, markOf(";"))
	}
	checkJoin(t, `emit "a\"b" ++ 12 x`, keywordOf("emit"), strOf(`a"b`), markOf("++"), intOf(12), nameOf("x"))
	checkJoin(t, "+ + ++ = = ==", markOf("+"), markOf("+"), markOf("++"), markOf("="), markOf("="), markOf("=="))
	for _, a := range someTokens() {
		checkJoin(t, textOfToken(a), a)
		for _, b := range someTokens() {
			checkJoin(t, textOfToken(a)+" "+textOfToken(b), a, b)
		}
	}
}

func TestP7_3Lines(t *testing.T) {
	want := "let x = 10 ;"
	list := []api.Token{keywordOf("let"), nameOf("x"), markOf("="), intOf(10), markOf(";")}
	for _, line := range []int{math.MinInt, -1, 0, 1, 7, math.MaxInt} {
		checkJoin(t, want, onLine(line, list)...)
	}
	for i := range list {
		list[i].Line = 9 - 4*i
	}
	checkJoin(t, want, list...)
}

// strangeTokens are tokens that are not valid.
func strangeTokens() []api.Token {
	long := strings.Repeat("k", mostName+1)
	list := []api.Token{
		{}, {Line: 1}, {Text: "x"}, {N: 1}, {Kind: 6}, {Kind: 6, Text: "x"}, {Kind: 6, Text: ";"}, {Kind: 6, N: 1}, {Kind: -1}, {Kind: -1, Text: "x"}, {Kind: -3, N: 1}, {Kind: 7, Text: "let"}, {Kind: math.MaxInt, Text: "x"}, {Kind: math.MinInt, Text: "x"}, {Kind: 1<<32 + 1, Text: "x"}, {Kind: 257, Text: "x"},
		nameOf(""), nameOf("_"), nameOf("_a"), nameOf("1"), nameOf("1a"), nameOf("A"), nameOf("aB"), nameOf("a b"), nameOf("a "), nameOf(" a"), nameOf("a\n"), nameOf("a\xff"), nameOf("é"), nameOf("a\u0161"), nameOf("+"), nameOf("a+"), nameOf(`"a"`), nameOf(long), nameOf(long + long), nameOf("a#"),
		keywordOf(""), keywordOf("x"), keywordOf("lets"), keywordOf("LET"), keywordOf("let "), keywordOf("let let"), keywordOf("get"), keywordOf("+"), keywordOf("7"), keywordOf("letif"), keywordOf("\xff"),
		intOf(-1), intOf(math.MinInt64), intOf(-9),
		strOf("\n"), strOf("\t"), strOf("\x00"), strOf("\x1f"), strOf("\x7f"), strOf("\x80"), strOf("\xff"), strOf("é"), strOf("a\n"), strOf("\"\n"), strOf(strings.Repeat("a", mostString+1)), strOf(strings.Repeat(`\`, mostString+1)), strOf(strings.Repeat("\n", mostString+1)), strOf(strings.Repeat("a", 1000)),
		markOf(""), markOf("!"), markOf("+="), markOf("==="), markOf("+++"), markOf("--"), markOf("&"), markOf("."), markOf("["), markOf("\\"), markOf(doubleQuote), markOf("x"), markOf("let"), markOf("7"), markOf(" "), markOf("+ "), markOf(" +"), markOf("()"), markOf("=<"), markOf("\xff"), markOf("_"), markOf("#"),
	}
	for _, k := range someTokens() {
		for _, n := range []int64{-1, 1, math.MinInt64, math.MaxInt64} {
			if k.Kind != api.TkInt {
				list = append(list, api.Token{Kind: k.Kind, Text: k.Text, N: n})
			}
		}
		for _, s := range []string{"x", "0", strconv.FormatInt(k.N, 10), " ", "\x00", "int"} {
			if k.Kind == api.TkInt {
				list = append(list, api.Token{Kind: k.Kind, Text: s, N: k.N})
			}
		}
	}
	return list
}

func TestP7_3Strange(t *testing.T) {
	x := nameOf("x")
	for _, k := range strangeTokens() {
		for _, line := range []int{0, 1, -1} {
			k.Line = line
			checkJoinError(t, api.ErrArg, k)
			checkJoinError(t, api.ErrArg, k, x)
			checkJoinError(t, api.ErrArg, x, x, k)
			checkJoinError(t, api.ErrArg, x, k, intOf(7))
		}
	}
	for kind := -2; kind < 9; kind++ {
		for _, n := range []int64{-1, 0, 1} {
			for _, s := range slices.Concat([]string{"", "x", "7", "!", "_", " ", "\xff", strings.Repeat("k", 16), strings.Repeat("k", 17), strings.Repeat("k", 64), strings.Repeat("k", 65)}, allKeywords(), allMarks(), everyByte()) {
				k := api.Token{Kind: kind, Text: s, N: n, Line: 3}
				if isToken(k) {
					checkJoin(t, textOfToken(k), k)
				} else {
					checkJoinError(t, api.ErrArg, k)
				}
			}
		}
	}
}

// TestP7_3Limit joins tokens to texts of MaxSource bytes and of one byte more.
func TestP7_3Limit(t *testing.T) {
	name := func(size int) api.Token { return nameOf(strings.Repeat("a", size)) }
	for _, k := range []api.Token{nameOf("x"), keywordOf("getint"), intOf(1234567), strOf(""), strOf(doubleQuote), strOf(strings.Repeat(`\`, mostString)), markOf(";"), markOf("++"), name(mostName)} {
		size := len(textOfToken(k)) + 1
		list := slices.Repeat([]api.Token{k}, mostSource/size-1)
		// Short names fill the text up, of which the last one can still grow.
		left := mostSource - len(list)*size
		for ; left > mostName-1; left -= 2 {
			list = append(list, name(1))
		}
		full := slices.Concat(list, []api.Token{name(left)})
		joined, e := Join(full)
		if len(joined) != mostSource || e != api.OK {
			t.Fatalf("Join has %d bytes and the error %d", len(joined), e)
		}
		checkLine(t, joined, full...)
		checkJoinError(t, api.ErrLimit, slices.Concat(list, []api.Token{name(left + 1)})...)
		checkJoinError(t, api.ErrLimit, slices.Concat(full, []api.Token{k})...)
		// A token that is not valid is found wherever it is.
		for _, wrong := range []api.Token{{}, nameOf("let"), intOf(-1), strOf("\n"), {Kind: 5, Text: "+", N: 1}} {
			checkJoinError(t, api.ErrArg, slices.Concat(full, []api.Token{k, wrong})...)
			checkJoinError(t, api.ErrArg, slices.Concat([]api.Token{wrong}, full)...)
		}
	}
	checkJoinError(t, api.ErrLimit, slices.Repeat([]api.Token{intOf(math.MaxInt64)}, 100000)...)
}

// TestP7_4Valid joins what Tokenize returns.
func TestP7_4Valid(t *testing.T) {
	eachText([]string{"a", "let", "_", "0", "7", strings.Repeat("8", 18), strings.Repeat("k", 15), "+", "=", doubleQuote, `\"`, `\\`, strings.Repeat("x", 63), " ", "\n", "#"}, 4, func(s string) {
		list, _, e := Tokenize(s)
		if e != api.OK {
			return
		}
		for _, k := range list {
			if !isToken(k) {
				t.Fatalf("Tokenize(%q) returns %v", s, k)
			}
		}
		joined, e := Join(list)
		if e != api.OK {
			t.Fatalf("Join of the tokens of %q has the error %d", s, e)
		}
		checkLine(t, joined, list...)
	})
}

func TestP7_4Join(t *testing.T) {
	some := someTokens()
	for i, a := range some {
		checkLine(t, textOfToken(a), a)
		for j, b := range some {
			list := []api.Token{a, b, some[(i*7+j*3)%len(some)], some[(i+j)%len(some)]}
			for n := range len(list) + 1 {
				joined, e := Join(onLine(n*5, list[:n]))
				if e != api.OK {
					t.Fatalf("Join(%v) has the error %d", list[:n], e)
				}
				checkLine(t, joined, list[:n]...)
			}
		}
	}
	joined, e := Join(some)
	if e != api.OK {
		t.Fatalf("Join has the error %d", e)
	}
	checkLine(t, joined, some...)
}

// TestP7_4TwoTexts puts a line feed between all pairs of texts.
func TestP7_4TwoTexts(t *testing.T) {
	var texts []string
	eachText([]string{"a", "7", "+", doubleQuote, "\n", "#", " x\n"}, 3, func(s string) { texts = append(texts, s) })
	texts = append(texts, "\"a\\\"\"", "let x = 10; # ten", "#\n#\n", "\n\n\n", "007", "a\n1x", "x\n\"\n", strings.Repeat("k", 17))
	for _, a := range texts {
		first, _, e := Tokenize(a)
		if e != api.OK {
			continue
		}
		for _, b := range texts {
			second, line, e := Tokenize(b)
			before := strings.Count(a, newline) + 1
			if e != api.OK {
				checkError(t, a+"\n"+b, before+line, e)
				continue
			}
			want := slices.Clone(first)
			for _, k := range second {
				k.Line += before
				want = append(want, k)
			}
			checkTokens(t, a+"\n"+b, want...)
		}
	}
	half := strings.Repeat("x\n", mostSource/4)
	checkError(t, half+"\n"+half, 0, api.ErrLimit)
	all, line, e := Tokenize(half + "\n" + half[1:])
	if len(all) != mostSource/2-1 || line != 0 || e != api.OK || all[len(all)-1].Line != mostSource/2+1 {
		t.Errorf("Tokenize of two texts has %d tokens, line %d, error %d", len(all), line, e)
	}
}

// overlaps tells whether two strings share memory.
func overlaps(a, b string) bool {
	if a == "" || b == "" {
		return false
	}
	startA, startB := uintptr(unsafe.Pointer(unsafe.StringData(a))), uintptr(unsafe.Pointer(unsafe.StringData(b)))
	return startA < startB+uintptr(len(b)) && startB < startA+uintptr(len(a))
}

func TestP0_4NewMemory(t *testing.T) {
	src := strings.Repeat(`let name_1 = "text" ++ "a\"b"; `, 2)
	list, _, e := Tokenize(src)
	if len(list) != 14 || e != api.OK {
		t.Fatalf("Tokenize(%q) has %d tokens, error %d", src, len(list), e)
	}
	for _, k := range list {
		if overlaps(k.Text, src) {
			t.Errorf("%v is in the memory of the argument %q", k, src)
		}
	}
	for _, s := range []string{"name", "let", "++", "plain"} {
		kind := map[string]int{"name": 1, "let": 2, "++": 5, "plain": 4}[s]
		argument := strings.Clone(s)
		joined, e := Join([]api.Token{{Kind: kind, Text: argument}})
		if e != api.OK || overlaps(joined, argument) {
			t.Errorf("%q, error %d, is in the memory of the argument", joined, e)
		}
		quoted, e := Quote(argument)
		if e != api.OK || overlaps(quoted, argument) {
			t.Errorf("%q, error %d, is in the memory of the argument", quoted, e)
		}
	}
}

// TestP0_4Calls requires that the tokens of two calls share no memory.
func TestP0_4Calls(t *testing.T) {
	first, _, _ := Tokenize("let x = 10;")
	want := slices.Clone(first)
	second, _, _ := Tokenize("let x = 10;")
	clear(second)
	clear(second[:cap(second)])
	if !slices.Equal(first, want) {
		t.Errorf("the tokens are %v", first)
	}
	checkLine(t, "let x = 10;", want...)
}

// TestP0_8Inside joins a part of a longer list, whose other elements are neither used nor changed.
func TestP0_8Inside(t *testing.T) {
	strange := []api.Token{{}, nameOf("let"), intOf(-1), strOf("\n"), markOf("!")}
	good := onLine(4, []api.Token{keywordOf("let"), nameOf("x"), markOf("="), intOf(10), strOf(`"`)})
	all := slices.Concat(strange, good, strange)
	before := slices.Clone(all)
	for end := 5; end <= 10; end++ {
		want := strings.Join([]string{"let", "x", "=", "10", `"\""`}[:end-5], " ")
		checkJoin(t, want, all[5:end]...)
	}
	checkJoinError(t, api.ErrArg, all[5:11]...)
	checkJoinError(t, api.ErrArg, all[4:10]...)
	if !slices.Equal(all, before) {
		t.Errorf("Join changes its argument to %v", all)
	}
}
