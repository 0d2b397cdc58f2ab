package cost

import (
	"clockwork/api"
	"fmt"
	"strings"
	"testing"
)

// loops returns the text of so many nested loops around a body, with up to most iterations each. The names of their variables begin with the prefix.
func loops(number, most int, prefix, body string) string {
	for i := range number {
		body = fmt.Sprintf("for %s%d = 0 to n max %d {%s}", prefix, i, most, body)
	}
	return body
}

// busy returns a body with so many steps.
func busy(steps int) string {
	text := ""
	// So many nested loops have these steps.
	for _, nest := range []struct{ loops, steps int }{{3, 4641}, {2, 289}, {1, 17}} {
		for i := range steps / nest.steps {
			text += loops(nest.loops, 16, fmt.Sprintf("b%d_%d_", nest.loops, i), "")
		}
		steps %= nest.steps
	}
	return text + strings.Repeat("abort 1;", steps)
}

// repeated returns a body in which a path executes the statement so many times.
func repeated(number int, stmt string) string {
	text := ""
	for levels := 3; levels >= 0; levels-- {
		each := 1 << (4 * levels)
		for i := range number / each {
			text += loops(levels, 16, fmt.Sprintf("r%d_%d_%s", levels, i, stmt[:1]), stmt)
		}
		number %= each
	}
	return text
}

// numbers are around the limits, and beyond.
func numbers() []int {
	return []int{0, 1, 15, 16, 17, 18, 32, 63, 64, 65, 66, 128, 4096, 8192, mostSteps - 1, mostSteps, mostSteps + 1, mostSteps + 2, mostSteps + 3, 20000, 32768, 40000}
}

// one is a statement that has one of a count.
type one struct {
	stmt string
	most int64 // the limit of the count
	of   func(a amounts) int64
}

// ones are such statements for all counts but the steps.
func ones() []one {
	gets := func(a amounts) int64 { return a.gets }
	puts := func(a amounts) int64 { return a.puts }
	emits := func(a amounts) int64 { return a.emits }
	return []one{
		{"n = getint(k);", mostKeys, gets}, {"k = getstr(k);", mostKeys, gets}, {"if has(k) {}", mostKeys, gets},
		{"put k = n;", mostKeys, puts}, {"delete k;", mostKeys, puts},
		{"emit n;", mostEmits, emits}, {"emit k;", mostEmits, emits},
	}
}

// TestP13_1Saturated has counts around the greatest one, as sums, as products, and in branches.
func TestP13_1Saturated(t *testing.T) {
	for _, x := range ones() {
		check := func(body string, want int) {
			t.Helper()
			p := proc(t, body)
			if got := x.of(resultsOf(p)); got != int64(want) {
				t.Fatalf("the count is %d, want %d, of\n%s", got, want, show(p))
			}
			checkProc(t, p, definedResults(p), definedCheck(p))
		}
		greatest := mostSteps + 1
		for _, number := range numbers() {
			text := repeated(number, x.stmt)
			check(text, min(number, greatest))
			check(x.stmt+text, min(number+1, greatest))
			check(text+x.stmt, min(number+1, greatest))
			check(text+loops(4, 16, "x", x.stmt), greatest)
			check(loops(4, 16, "x", x.stmt)+text, greatest)
			check("if n == 1 {"+text+"} else {"+loops(4, 16, "x", x.stmt)+"}", greatest)
			check("if n == 1 {"+loops(3, 16, "x", x.stmt)+"} else {"+text+"}", max(4096, min(number, greatest)))
			check("for i = 0 to n max 3 {"+text+"}", min(3*number, greatest))
		}
		for _, m := range []int{1, 2, 3, 5, 11, 12, 15, 16} {
			product := 1
			// A statement in 11 others has the greatest depth.
			for levels := range 12 {
				check(loops(levels, m, "x", x.stmt), min(product, greatest))
				check(loops(levels, m, "x", x.stmt+busy(100)), min(product, greatest))
				check(loops(levels, m, "x", "abort 1;"), 0)
				product *= m
			}
		}
	}
}

// TestP13_2Steps has as many steps as allowed, and more, in different places.
func TestP13_2Steps(t *testing.T) {
	for _, number := range numbers() {
		want, e := amounts{steps: int64(min(number, mostSteps+1))}, api.OK
		if number > mostSteps {
			e = api.ErrFuel
		}
		checkProc(t, proc(t, busy(number)), want, e)
		if number > 2 {
			checkProc(t, proc(t, "if n == 1 {"+busy(number-1)+"}"), want, e)
			checkProc(t, proc(t, "if n == 1 { abort 1; } else {"+busy(number-1)+"}"), want, e)
			checkProc(t, proc(t, "abort 1;"+busy(number-1)), want, e)
			checkProc(t, proc(t, busy(number-1)+"abort 1;"), want, e)
			checkProc(t, proc(t, "for i = 0 to n max 1 {"+busy(number-2)+"}"), want, e)
		}
	}
	// 1 + 3 * (1 + 5460) is the limit.
	checkProc(t, proc(t, "for i = 0 to n max 3 {"+busy(5460)+"}"), amounts{steps: mostSteps}, api.OK)
	checkProc(t, proc(t, "for i = 0 to n max 3 {"+busy(5461)+"}"), amounts{steps: mostSteps + 1}, api.ErrFuel)
}

// TestP13_2Limits has as many gets, puts and emits as allowed, and more, with few and with many steps.
func TestP13_2Limits(t *testing.T) {
	for _, x := range ones() {
		for _, number := range numbers() {
			text := repeated(number, x.stmt)
			for _, body := range []string{
				text, "if n == 1 {" + text + "}", "if n == 1 {} else {" + text + "}", "for i = 0 to n max 1 {" + text + "}",
				busy(2*4641) + text, text + busy(max(mostSteps-2*number-20, 0)),
			} {
				p := proc(t, body)
				want, e := definedResults(p), api.OK
				switch {
				case want.steps > mostSteps:
					e = api.ErrFuel
				case int64(number) > x.most:
					e = api.ErrLimit
				}
				checkProc(t, p, want, e)
			}
		}
	}
}

// TestP13_2Together has each of the counts at its limit and one beyond it, in all combinations.
func TestP13_2Together(t *testing.T) {
	for i := range 16 {
		gets, puts, emits, steps := mostKeys+i&1, mostKeys+i>>1&1, mostEmits+i>>2&1, mostSteps+i>>3
		text := repeated(gets, "n = getint(k);") + repeated(puts, "delete k;") + repeated(emits, "emit n;")
		text += busy(steps - int(definedResults(proc(t, text)).steps))
		e := api.OK
		switch {
		case steps > mostSteps:
			e = api.ErrFuel
		case i != 0:
			e = api.ErrLimit
		}
		checkProc(t, proc(t, text), amounts{int64(steps), int64(gets), int64(puts), int64(emits)}, e)
	}
}
