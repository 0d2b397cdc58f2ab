// Package num is layer 1: checked arithmetic on signed 64-bit integers (see shared/doc/01-num.md).
package num

import (
	"clockwork/api"
	"math"
	"strconv"
	"strings"
)

// Add returns a + b, or ErrOverflow.
func Add(a, b int64) (int64, api.Errno) {
	if b > 0 && a > math.MaxInt64-b || b < 0 && a < math.MinInt64-b {
		return 0, api.ErrOverflow
	}
	return a + b, api.OK
}

// Sub returns a - b, or ErrOverflow.
func Sub(a, b int64) (int64, api.Errno) {
	if b < 0 && a > math.MaxInt64+b || b > 0 && a < math.MinInt64+b {
		return 0, api.ErrOverflow
	}
	return a - b, api.OK
}

// Mul returns a * b, or ErrOverflow.
func Mul(a, b int64) (int64, api.Errno) {
	// Dividing the wrapped product by b exposes an overflow, except for b = 0 and for b = -1, where -2^63 / -1 wraps too.
	switch b {
	case 0:
		return 0, api.OK
	case -1:
		return Neg(a)
	}
	product := a * b
	if product/b != a {
		return 0, api.ErrOverflow
	}
	return product, api.OK
}

// Div returns the quotient rounded toward negative infinity, or ErrDivide or ErrOverflow.
func Div(a, b int64) (int64, api.Errno) {
	switch b {
	case 0:
		return 0, api.ErrDivide
	case -1:
		return Neg(a)
	}
	quotient := a / b
	// Go rounds toward zero, which is too high if the exact quotient is negative and not whole.
	if a%b != 0 && (a < 0) != (b < 0) {
		quotient--
	}
	return quotient, api.OK
}

// Mod returns the remainder that belongs to Div: 0, or of the sign of b; or ErrDivide.
func Mod(a, b int64) (int64, api.Errno) {
	if b == 0 {
		return 0, api.ErrDivide
	}
	remainder := a % b
	// Go gives the remainder the sign of a; here the signs differ, so that the sum cannot overflow.
	if remainder != 0 && (remainder < 0) != (b < 0) {
		remainder += b
	}
	return remainder, api.OK
}

// Neg returns -a, or ErrOverflow.
func Neg(a int64) (int64, api.Errno) {
	if a == math.MinInt64 {
		return 0, api.ErrOverflow
	}
	return -a, api.OK
}

// Format returns the decimal notation of n.
func Format(n int64) string {
	return strconv.FormatInt(n, 10)
}

// Parse returns the integer whose decimal notation is s, or ErrSyntax or ErrOverflow.
func Parse(s string) (int64, api.Errno) {
	digits, negative := strings.CutPrefix(s, "-")
	if !isWhole(digits) || negative && digits == "0" {
		return 0, api.ErrSyntax
	}
	// The digits are collected below zero, because -2^63 is an integer and 2^63 is not.
	value, fits := int64(0), true
scan:
	for i := range len(digits) {
		digit := int64(digits[i] - '0')
		if value < (math.MinInt64+digit)/10 {
			fits = false
			break scan
		}
		value = value*10 - digit
	}
	switch {
	case !fits:
		return 0, api.ErrOverflow
	case negative:
		return value, api.OK
	default:
		return Neg(value)
	}
}

// isWhole tells whether s is 0, or consists of digits of which the first is not 0.
func isWhole(s string) bool {
	for i := range len(s) {
		if s[i] < '0' || s[i] > '9' {
			return false
		}
	}
	return s == "0" || s != "" && s[0] != '0'
}
