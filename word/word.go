// Package word is layer 1: sums of bytes and words, and what flags they leave. See shared/doc/01-word.md.
package word

import "math/bits"

// Flags: of an 8080.
type Flags struct{ S, Z, A, P, C bool }

// The places of the flags in a byte, from the lowest bit on. Those without a name are always 0.
const (
	placeC = iota
	placeOne
	placeP
	_
	placeA
	_
	placeZ
	placeS
)

// The kinds of turns.
const (
	turnLeft = iota
	turnRight
	turnLeftThrough
	turnRightThrough
)

// The greatest numbers of four bits, of a byte, of a word.
const (
	maxFour = 1<<4 - 1
	maxByte = 1<<8 - 1
	maxWord = 1<<16 - 1
)

// Psw: the flags as a byte.
func Psw(f Flags) byte {
	b := byte(1 << placeOne)
	set := func(place int, on bool) {
		if on {
			b |= 1 << place
		}
	}
	set(placeS, f.S)
	set(placeZ, f.Z)
	set(placeA, f.A)
	set(placeP, f.P)
	set(placeC, f.C)
	return b
}

// Of: the flags that stand in a byte.
func Of(b byte) Flags {
	var f Flags
	set := func(flag *bool, place int) {
		*flag = b>>place&1 == 1
	}
	set(&f.S, placeS)
	set(&f.Z, placeZ)
	set(&f.A, placeA)
	set(&f.P, placeP)
	set(&f.C, placeC)
	return f
}

// Parity: is the number of ones even?
func Parity(b byte) bool { return bits.OnesCount8(b)%2 == 0 }

// Add: a, b and 1 (with c).
func Add(a, b byte, c bool) (byte, Flags) {
	whole := sum(int(a), int(b), one(c))
	f := ofResult(byte(whole))
	f.A = sum(lowFour(a), lowFour(b), one(c)) > maxFour
	f.C = whole > maxByte
	return byte(whole), f
}

// Sub: a less b, less 1 (with c). It is the sum with b's complement, so that A comes as the 8080 has it; that sum carries where nothing was borrowed.
func Sub(a, b byte, c bool) (byte, Flags) {
	r, f := Add(a, ^b, !c)
	f.C = !f.C
	return r, f
}

// And: the bits that both have. A comes from bit 3 of either, as the 8080 has it.
func And(a, b byte) (byte, Flags) {
	f := ofResult(a & b)
	f.A = (a|b)>>3&1 == 1
	return a & b, f
}

// Or: the bits that either has.
func Or(a, b byte) (byte, Flags) { return a | b, ofResult(a | b) }

// Xor: the bits that just one has.
func Xor(a, b byte) (byte, Flags) { return a ^ b, ofResult(a ^ b) }

// Inc: 1 more; C stays.
func Inc(a byte, f Flags) (byte, Flags) {
	r, g := Add(a, 1, false)
	g.C = f.C
	return r, g
}

// Dec: 1 less; C stays.
func Dec(a byte, f Flags) (byte, Flags) {
	r, g := Sub(a, 1, false)
	g.C = f.C
	return r, g
}

// Daa: a sum of two bytes of two digits each is made such a byte again.
func Daa(a byte, f Flags) (byte, Flags) {
	low, high := 0, 0
	if lowFour(a) > 9 || f.A {
		low = 0x06
	}
	first := sum(int(a), low)
	// What the first sum lost above 255 counts too: its highest four bits alone don't show it.
	carry := highFour(byte(first)) > 9 || f.C || first > maxByte
	if carry {
		high = 0x60
	}
	r := byte(sum(first, high))
	g := ofResult(r)
	g.A = sum(lowFour(a), low) > maxFour
	g.C = carry
	return r, g
}

// Turn: a turned by one place, by kind, and the carry.
func Turn(kind int, a byte, c bool) (byte, bool) {
	lowest, highest := a&1, a>>7
	switch kind {
	case turnLeft:
		return a<<1 | highest, highest == 1
	case turnRight:
		return a>>1 | lowest<<7, lowest == 1
	case turnLeftThrough:
		return a<<1 | byte(one(c)), highest == 1
	case turnRightThrough:
		return a>>1 | byte(one(c))<<7, lowest == 1
	}
	return a, c
}

// Add16: the sum of two words; is it above 65535?
func Add16(a, b uint16) (uint16, bool) {
	whole := sum(int(a), int(b))
	return uint16(whole), whole > maxWord
}

// sum: the whole of what is given, so that what a byte or a word would lose can still be seen.
func sum(terms ...int) int {
	whole := 0
	for _, t := range terms {
		whole += t
	}
	return whole
}

// one: 1 of a carry.
func one(c bool) int {
	if c {
		return 1
	}
	return 0
}

func lowFour(b byte) int  { return int(b & maxFour) }
func highFour(b byte) int { return int(b >> 4) }

// ofResult: the flags that any result leaves; A and C are its maker's.
func ofResult(r byte) Flags {
	return Flags{S: r>>7 == 1, Z: r == 0, P: Parity(r)}
}
