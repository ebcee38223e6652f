package isa86

import "bytes"

// What stands behind an instruction's head.
const (
	aNone = iota // nothing
	aByte        // a byte
	aLeap        // a byte, by its sign
	aWord        // two bytes, the low one first
)

// form: the bytes by which an instruction is known, and what stands behind them. One without a head is none.
type form struct {
	head []byte
	tail int
}

func made(tail int, head ...byte) form { return form{head: head, tail: tail} }

// size: of the whole instruction.
func (f form) size() int {
	switch f.tail {
	case aByte, aLeap:
		return len(f.head) + 1
	case aWord:
		return len(f.head) + 2
	}
	return len(f.head)
}

// begins: whether the bytes are the form's, as far as its head goes.
func (f form) begins(b []byte) bool { return len(f.head) > 0 && bytes.HasPrefix(b, f.head) }

// put: new memory with the head and what stands behind it.
func put(head []byte, tail ...byte) []byte {
	b := make([]byte, 0, len(head)+len(tail))
	b = append(b, head...)
	return append(b, tail...)
}

// fits: whether the number can stand in such a tail.
func fits(tail int, n uint16) bool {
	switch tail {
	case aNone:
		return n == 0
	case aByte:
		return n <= 0xff
	case aLeap:
		return n == signed(byte(n))
	}
	return true
}

// numberOf: the number that stands in such a tail.
func numberOf(tail int, b ...byte) uint16 {
	switch tail {
	case aByte:
		return uint16(b[0])
	case aLeap:
		return signed(b[0])
	case aWord:
		return uint16(b[0]) | uint16(b[1])<<8
	}
	return 0
}

// signed: the byte as one of -128 to 127, by 16 bits.
func signed(b byte) uint16 { return uint16(int8(b)) }
