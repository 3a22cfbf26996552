// Package wire is layer 1: see shared/doc/01-wire.md.
package wire

import "strings"

const (
	base      = 128 // of a number's digits; what is added to each but the last one
	bits      = 7   // of a digit
	maxDigits = 10  // of 2^64 - 1
	maxLast   = 1   // of ten digits the last one holds what nine of 7 bits leave of 64
)

// Reader takes numbers and texts.
type Reader struct {
	rest   string
	failed bool
}

// PutNum tells s with the number's bytes behind it.
func PutNum(s string, n uint64) string {
	return s + string(numBytes(n))
}

// PutText tells s with the text's bytes behind it.
func PutText(s, t string) string {
	return PutNum(s, uint64(len(t))) + t
}

// NewReader makes a reader at the beginning of s.
func NewReader(s string) *Reader {
	return &Reader{rest: s}
}

// Num takes a number, or fails.
func (r *Reader) Num() uint64 {
	if !r.OK() {
		return 0
	}
	n, size := firstNum(r.rest)
	if size == 0 {
		r.fail()
		return 0
	}
	r.rest = r.rest[size:]
	return n
}

// Text takes a text, or fails.
func (r *Reader) Text() string {
	n := r.Num()
	if !r.OK() {
		return ""
	}
	// Held against each other as uint64: a length above what an int holds must not wrap round.
	if n > uint64(len(r.rest)) {
		r.fail()
		return ""
	}
	t := strings.Clone(r.rest[:n])
	r.rest = r.rest[n:]
	return t
}

// OK tells whether the reader has not failed.
func (r *Reader) OK() bool {
	return r != nil && !r.failed
}

// End tells whether the reader has not failed, and is at the end.
func (r *Reader) End() bool {
	return r.OK() && r.rest == ""
}

func (r *Reader) fail() {
	r.rest, r.failed = "", true
}

// numBytes tells a number's bytes.
func numBytes(n uint64) []byte {
	var digits [maxDigits]byte
	last := 0
	for ; n >= base; n /= base {
		digits[last] = byte(n%base) + base
		last++
	}
	digits[last] = byte(n)
	b := make([]byte, last+1)
	copy(b, digits[:])
	return b
}

// firstNum tells the number with whose bytes s begins, and how many these are; 0 and 0, if it begins with none.
func firstNum(s string) (uint64, int) {
	var n uint64
	at := 0
	// A last digit of 0 would be a second way to write the number, and one too great would be lost.
	odd := func(digit byte) bool {
		return at > 0 && digit == 0 || at == maxDigits-1 && digit > maxLast
	}
digits:
	for ; at < len(s); at++ {
		digit := s[at]
		switch {
		case odd(digit):
			break digits
		case digit < base:
			return n | uint64(digit)<<(bits*at), at + 1
		}
		n |= uint64(digit-base) << (bits * at)
	}
	return 0, 0
}
