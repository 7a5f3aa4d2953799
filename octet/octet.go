// Package octet has bytes.
package octet

import (
	"oathbook/api"
)

const (
	digits   = "0123456789abcdef"
	maxBytes = 8 // of a number
)

// Hex tells bytes as digits.
func Hex(b []byte) string {
	out := make([]byte, 0, 2*len(b))
	for _, x := range b {
		out = append(out, digits[x>>4], digits[x&15])
	}
	return string(out)
}

// Unhex tells the bytes of digits.
func Unhex(s string) ([]byte, error) {
	if len(s)%2 != 0 {
		return nil, api.ErrSyntax
	}
	out := make([]byte, len(s)/2)
	for i := range out {
		high, okHigh := digit(s[2*i])
		low, okLow := digit(s[2*i+1])
		if !okHigh || !okLow {
			return nil, api.ErrSyntax
		}
		out[i] = high<<4 | low
	}
	return out, nil
}

// digit tells what a digit counts. A to F count nothing: Hex never tells them.
func digit(c byte) (byte, bool) {
	switch {
	case '0' <= c && c <= '9':
		return c - '0', true
	case 'a' <= c && c <= 'f':
		return c - 'a' + 10, true
	}
	return 0, false
}

// Put tells a number in so many bytes.
func Put(n, size int) ([]byte, error) {
	if size < 1 || size > maxBytes || n < 0 {
		return nil, api.ErrRange
	}
	out := make([]byte, size)
	for i := size - 1; i >= 0; i-- {
		out[i] = byte(n)
		n >>= 8
	}
	// What is left over had no byte to stand in.
	if n != 0 {
		return nil, api.ErrRange
	}
	return out, nil
}

// Num tells the number that bytes are.
func Num(b []byte) (int, error) {
	if len(b) < 1 || len(b) > maxBytes {
		return 0, api.ErrRange
	}
	// The highest bit of eight bytes is an int's sign: no number above 2^63 - 1 is an int.
	if len(b) == maxBytes && b[0] >= 128 {
		return 0, api.ErrRange
	}
	n := 0
	for _, x := range b {
		n = n<<8 | int(x)
	}
	return n, nil
}
