package types

import (
	"clockwork/api"
	"fmt"
	"math"
	"slices"
	"strings"
	"testing"
)

// values returns values, with the type of the parameters that they fit, or 0.
func values() map[api.Value]int {
	long := strings.Repeat("x", mostString)
	return map[api.Value]int{
		{Kind: api.KInt}: 1, {Kind: api.KInt, N: -5}: 1, {Kind: api.KInt, N: math.MaxInt64}: 1, {Kind: api.KInt, N: math.MinInt64}: 1,
		{Kind: api.KStr}: 2, {Kind: api.KStr, S: "a b"}: 2, {Kind: api.KStr, S: `"\`}: 2, {Kind: api.KStr, S: long}: 2, {Kind: api.KStr, S: plainBytes[:mostString]}: 2, {Kind: api.KStr, S: plainBytes[31:]}: 2, {Kind: api.KStr, S: "let"}: 2, {Kind: api.KStr, S: "-1"}: 2,
		{}: 0, {Kind: api.KNil, N: 1}: 0, {Kind: api.KNil, S: "a"}: 0, {Kind: api.KBool}: 0, {Kind: api.KBool, N: 1}: 0, {Kind: 4}: 0, {Kind: -1}: 0, {Kind: math.MaxInt}: 0, {Kind: 1 << 32}: 0, {Kind: 1<<32 + 1}: 0, {Kind: 1<<32 + 2, S: "a"}: 0,
		{Kind: api.KInt, S: "x"}: 0, {Kind: api.KInt, N: 7, S: " "}: 0, {Kind: api.KInt, S: "\x00"}: 0, {Kind: api.KStr, N: 1}: 0, {Kind: api.KStr, N: -1, S: "a"}: 0, {Kind: api.KStr, N: math.MinInt64, S: "a"}: 0,
		{Kind: api.KStr, S: long + "x"}: 0, {Kind: api.KStr, S: strings.Repeat("x", 1000)}: 0, {Kind: api.KStr, S: "\t"}: 0, {Kind: api.KStr, S: "a\n"}: 0, {Kind: api.KStr, S: "é"}: 0, {Kind: api.KStr, S: long[1:] + "\x7f"}: 0, {Kind: api.KStr, S: "\x1f" + long[1:]}: 0, {Kind: api.KStr, S: long[2:] + "é"}: 0,
	}
}

// fitting returns arguments that fit the parameters.
func fitting(p api.Proc) []api.Value {
	var args []api.Value
	for _, x := range p.Params {
		args = append(args, map[int]api.Value{1: {Kind: api.KInt, N: 3}, 2: {Kind: api.KStr, S: "k"}}[x.Type])
	}
	return args
}

// signatureProc returns a procedure whose parameters have the types.
func signatureProc(types ...int) api.Proc {
	p := api.Proc{Name: "p"}
	for i, ty := range types {
		p.Params = append(p.Params, param(letters[i:i+1], ty))
	}
	return p
}

func TestP11_4Values(t *testing.T) {
	for v, fits := range values() {
		for ty := 1; ty <= 2; ty++ {
			want := map[bool]api.Errno{true: api.OK, false: api.ErrType}[fits == ty]
			checkArgs(t, signatureProc(ty), []api.Value{v}, want)
			// In each place of six parameters.
			for i := range mostParams {
				for _, other := range []int{1, 2} {
					types := slices.Repeat([]int{other}, mostParams)
					types[i] = ty
					p := signatureProc(types...)
					args := fitting(p)
					args[i] = v
					checkArgs(t, p, args, want)
					args[mostParams-1-i] = v
					checkArgs(t, p, args, map[bool]api.Errno{true: api.OK, false: api.ErrType}[want == api.OK && fits == types[mostParams-1-i]])
				}
			}
		}
	}
}

// TestP11_4Bytes has each byte at the beginning, in the middle and at the end of strings.
func TestP11_4Bytes(t *testing.T) {
	for b := range 256 {
		c := string([]byte{byte(b)})
		want := map[bool]api.Errno{true: api.OK, false: api.ErrType}[strings.Contains(plainBytes, c)]
		for _, s := range []string{c, c + "ab", "a" + c + "b", "ab" + c, strings.Repeat(c, mostString), strings.Repeat("x", mostString-1) + c, c + strings.Repeat("x", mostString-1)} {
			checkArgs(t, signatureProc(2), []api.Value{{Kind: api.KStr, S: s}}, want)
			checkArgs(t, signatureProc(1), []api.Value{{Kind: api.KStr, S: s}}, api.ErrType)
			checkArgs(t, signatureProc(1), []api.Value{{Kind: api.KInt, S: s}}, api.ErrType)
		}
		checkArgs(t, signatureProc(2), []api.Value{{Kind: api.KStr, S: strings.Repeat(c, mostString+1)}}, api.ErrType)
	}
	for size := range 2 * mostString {
		want := map[bool]api.Errno{true: api.OK, false: api.ErrType}[size <= mostString]
		checkArgs(t, signatureProc(2), []api.Value{{Kind: api.KStr, S: strings.Repeat("~", size)}}, want)
	}
}

// TestP11_4Number has all numbers of parameters and arguments, of all types.
func TestP11_4Number(t *testing.T) {
	for params := range mostParams + 1 {
		for mask := range 1 << params {
			var types, others []int
			for i := range params {
				types = append(types, 1+mask>>i%2)
				others = append(others, 2-mask>>i%2)
			}
			p := signatureProc(types...)
			args := fitting(p)
			checkArgs(t, p, args, api.OK)
			for number := range mostParams + 3 {
				fits, none := api.ErrArg, api.ErrArg
				if number == params {
					fits, none = api.OK, api.ErrType
				}
				longer := append(slices.Clone(args), slices.Repeat([]api.Value{{Kind: api.KInt}}, mostParams+3)...)
				// What is behind the list does not count.
				checkArgs(t, p, longer[:number], fits)
				if number > 0 {
					checkArgs(t, p, make([]api.Value, number), none)
					checkArgs(t, signatureProc(others...), longer[:number], none)
				}
			}
		}
	}
	checkArgs(t, signatureProc(), nil, api.OK)
	checkArgs(t, signatureProc(), []api.Value{}, api.OK)
	checkArgs(t, signatureProc(1), nil, api.ErrArg)
	checkArgs(t, signatureProc(1), make([]api.Value, 100000), api.ErrArg)
}

// TestP11_4Check has procedures that do not pass Check.
func TestP11_4Check(t *testing.T) {
	fit := []api.Value{{Kind: api.KInt}, {Kind: api.KStr}}
	for _, args := range [][]api.Value{nil, fit, fit[:1], {{}, {}}, {fit[1], fit[0]}} {
		for _, body := range []string{"emit x;", "n = s;", "let n = 1;", "let x = 1; let x = 2;", "if n {}", "for i = 0 to 1 max 1 { i = 1; }", "emit has(s);", "let x = -s;"} {
			checkArgs(t, proc(t, body), args, api.ErrArg)
		}
		for _, p := range []api.Proc{{}, {Name: "P", Params: proc(t, "").Params}, signatureProc(1, 3), signatureProc(3, 2), signatureProc(1, 0), signatureProc(4, 2), {Name: "p", Params: proc(t, "").Params, Body: make([]api.Stmt, 1)}} {
			checkArgs(t, p, args, api.ErrArg)
		}
		want := api.ErrArg
		switch {
		case len(args) == 2 && args[0] == fit[0]:
			want = api.OK
		case len(args) == 2:
			want = api.ErrType
		}
		checkArgs(t, proc(t, "emit now(); let x = has(s); put s = n;"), args, want)
		checkArgs(t, proc(t, ""), args, want)
	}
	checkArgs(t, signatureProc(3), []api.Value{{Kind: api.KBool, N: 1}}, api.ErrArg)
}

func TestP11_4Random(t *testing.T) {
	var all []api.Value
	for v := range values() {
		all = append(all, v)
	}
	slices.SortFunc(all, func(v, w api.Value) int { return strings.Compare(fmt.Sprint(v), fmt.Sprint(w)) })
	g := newGenerator(4)
	counts := map[api.Errno]int{}
	for _, p := range randomProcs(5000) {
		args := fitting(p)
		switch g.IntN(4) {
		case 0:
			if len(args) > 0 {
				args[g.IntN(len(args))] = some(g, all...)
			}
		case 1:
			args = args[:g.IntN(len(args)+1)]
		}
		e := definedArgs(p, args)
		checkArgs(t, p, args, e)
		counts[e]++
	}
	if counts[api.OK] < 500 || counts[api.ErrArg] < 500 || counts[api.ErrType] < 100 {
		t.Errorf("the results are %v", counts)
	}
}
