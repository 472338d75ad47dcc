// Package wire encodes values as bytes (layer 1, shared/doc/01-wire.md).
package wire

import (
	"math"
	"math/bits"

	"diorama/api"
)

// maxDigits is the greatest number of base-256 digits of an integer.
const maxDigits = 8

// Int returns the encoding of an integer.
func Int(n int) []byte {
	m := magnitude(n)
	var room [maxDigits]byte
	first := maxDigits
digits:
	for {
		switch {
		case m == 0:
			break digits
		case n < 0:
			room[first-1] = 255 - byte(m)
		default:
			room[first-1] = byte(m)
		}
		first--
		m >>= 8
	}
	k := maxDigits - first
	head := 128 + k
	if n < 0 {
		head = 127 - k
	}
	return append([]byte{byte(head)}, room[first:]...)
}

// magnitude returns n, or -1 - n for a negative n: unlike -n, this has no overflow.
func magnitude(n int) uint64 {
	if n < 0 {
		return uint64(-1 - n)
	}
	return uint64(n)
}

// GetInt decodes an integer at the beginning of a byte sequence.
func GetInt(b []byte) (int, int, api.Errno) {
	if len(b) == 0 {
		return 0, 0, api.ErrMore
	}
	negative := b[0] < 128
	k := int(b[0]) - 128
	if negative {
		k = 127 - int(b[0])
	}
	if k > maxDigits {
		return 0, 0, api.ErrForm
	}
	if len(b)-1 < k {
		return 0, 0, api.ErrMore
	}
	m := uint64(0)
	for _, digit := range b[1 : 1+k] {
		if negative {
			digit = 255 - digit
		}
		m = m<<8 | uint64(digit)
	}
	if k != leastDigits(m) || m > math.MaxInt64 {
		return 0, 0, api.ErrForm
	}
	if negative {
		return -1 - int(m), 1 + k, api.OK
	}
	return int(m), 1 + k, api.OK
}

// leastDigits returns the number of base-256 digits of m without leading zeros.
func leastDigits(m uint64) int { return (bits.Len64(m) + 7) / 8 }

// Bytes returns the encoding of a byte string.
func Bytes(s string) []byte { return append(Int(len(s)), s...) }

// GetBytes decodes a byte string at the beginning of a byte sequence.
func GetBytes(b []byte) (string, int, api.Errno) {
	n, used, e := getLength(b, 1)
	if e != api.OK {
		return "", 0, e
	}
	return string(b[used : used+n]), used + n, api.OK
}

// getLength decodes a length that at least size bytes per element follow.
// Dividing what is left, instead of multiplying the length, keeps forged lengths from wrapping around.
func getLength(b []byte, size int) (int, int, api.Errno) {
	n, used, e := GetInt(b)
	if e != api.OK {
		return 0, 0, e
	}
	if n < 0 {
		return 0, 0, api.ErrForm
	}
	if n > (len(b)-used)/size {
		return 0, 0, api.ErrMore
	}
	return n, used, api.OK
}

// getList decodes a length and has get decode and keep each element, of at least size bytes.
// It returns the number of bytes of the whole; get returns that of its element.
func getList(b []byte, size int, get func(rest []byte) (int, api.Errno)) (int, api.Errno) {
	n, used, e := getLength(b, size)
	if e != api.OK {
		return 0, e
	}
	for range n {
		step, e := get(b[used:])
		if e != api.OK {
			return 0, e
		}
		used += step
	}
	return used, api.OK
}

// Ints returns the encoding of a list of integers.
func Ints(l []int) []byte {
	b := Int(len(l))
	for _, n := range l {
		b = append(b, Int(n)...)
	}
	return b
}

// GetInts decodes a list of integers at the beginning of a byte sequence.
func GetInts(b []byte) ([]int, int, api.Errno) {
	var l []int
	used, e := getList(b, 1, func(rest []byte) (int, api.Errno) {
		n, step, e := GetInt(rest)
		l = append(l, n)
		return step, e
	})
	if e != api.OK {
		return nil, 0, e
	}
	return l, used, api.OK
}

// Strings returns the encoding of a list of byte strings.
func Strings(l []string) []byte {
	b := Int(len(l))
	for _, s := range l {
		b = append(b, Bytes(s)...)
	}
	return b
}

// GetStrings decodes a list of byte strings at the beginning of a byte sequence.
func GetStrings(b []byte) ([]string, int, api.Errno) {
	var l []string
	used, e := getList(b, 1, func(rest []byte) (int, api.Errno) {
		s, step, e := GetBytes(rest)
		l = append(l, s)
		return step, e
	})
	if e != api.OK {
		return nil, 0, e
	}
	return l, used, api.OK
}

// Digests returns the encoding of a list of digests.
func Digests(l []api.Digest) []byte {
	b := Int(len(l))
	for _, d := range l {
		b = append(b, d[:]...)
	}
	return b
}

// GetDigests decodes a list of digests at the beginning of a byte sequence.
func GetDigests(b []byte) ([]api.Digest, int, api.Errno) {
	var l []api.Digest
	used, e := getList(b, api.DigestSize, func(rest []byte) (int, api.Errno) {
		var d api.Digest
		step := copy(d[:], rest)
		l = append(l, d)
		return step, api.OK
	})
	if e != api.OK {
		return nil, 0, e
	}
	return l, used, api.OK
}
