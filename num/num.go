// Package num is layer 1: see shared/doc/01-num.md.
package num

import (
	"math"
	"strconv"
)

const (
	bitsPerByte = 7
	// more is added to each byte that another one follows.
	more = 1 << bitsPerByte
	// mostBytes is how many bytes a number of 64 bits has at most.
	mostBytes = (64 + bitsPerByte - 1) / bitsPerByte
	// mostLast is the greatest value of the last of mostBytes bytes: the bits that the others left.
	mostLast = 1<<(64-bitsPerByte*(mostBytes-1)) - 1
)

// Add tells a + b, and false if an int can not be that.
func Add(a, b int) (int, bool) {
	if b > 0 && a > math.MaxInt-b || b < 0 && a < math.MinInt-b {
		return 0, false
	}
	return a + b, true
}

// Mul tells a * b, and false if an int can not be that.
func Mul(a, b int) (int, bool) {
	if b == 0 {
		return 0, true
	}
	// The division below wraps round in just this case, and would not show it.
	if a == math.MinInt && b == -1 {
		return 0, false
	}
	product := a * b
	if product/b != a {
		return 0, false
	}
	return product, true
}

// Put tells the bytes of n.
func Put(n uint64) string {
	var gathered [mostBytes]byte
	size := 0
	for n >= more {
		gathered[size] = byte(n%more) + more
		n /= more
		size++
	}
	gathered[size] = byte(n)
	return string(gathered[:size+1])
}

// Take tells the number whose bytes s begins with, and how many they are; 0 and 0 if it begins with none.
func Take(s string) (n uint64, size int) {
	for i := range min(len(s), mostBytes) {
		part := s[i]
		if i == mostBytes-1 && part > mostLast {
			return 0, 0
		}
		n += uint64(part%more) << (bitsPerByte * i)
		if part >= more {
			continue
		}
		// A last byte of 0 adds nothing: fewer bytes would have been enough.
		if part == 0 && i > 0 {
			return 0, 0
		}
		return n, i + 1
	}
	return 0, 0
}

// Text tells the decimal digits of n.
func Text(n int) string {
	return strconv.Itoa(n)
}

// Parse tells the number from 0 to most whose text s is, and false if there is none.
func Parse(s string, most int) (int, bool) {
	n, err := strconv.Atoi(s)
	if err != nil || n < 0 || n > most {
		return 0, false
	}
	// strconv takes more forms (+1, 007) than a number has texts: one.
	if Text(n) != s {
		return 0, false
	}
	return n, true
}
