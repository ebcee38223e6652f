package isa86

// paired: whether a second byte belongs to the head that begins so.
func paired(first byte) bool {
	switch first {
	case 0x80, 0x86, 0x87, 0x88, 0x89, 0x8a, 0x8b, 0xc6, 0xd0, 0xd1, 0xf6, 0xfe:
		return true
	}
	return first < 0x40 && first&7 <= 2
}

// guess: the only instruction whose head the bytes may have; whether they do, its form tells.
func guess(b []byte) Ins {
	if paired(b[0]) {
		return guessPaired(b[0], b[1])
	}
	first := b[0]
	low := int(first & 7)
	switch first >> 3 {
	case 0x08:
		return Ins{Op: inc, D: ax + low}
	case 0x09:
		return Ins{Op: dec, D: ax + low}
	case 0x0a:
		return Ins{Op: push, D: ax + low}
	case 0x0b:
		return Ins{Op: pop, D: ax + low}
	case 0x0e, 0x0f:
		return Ins{Op: 40 + int(first&15), D: value}
	case 0x16:
		return Ins{Op: mov, D: al + low, S: value}
	case 0x17:
		return Ins{Op: mov, D: ax + low, S: value}
	}
	if first < 0x40 && low == 4 {
		return Ins{Op: firstSum + int(first>>3), D: al, S: value}
	}
	return guessLone(first)
}

// guessLone: of a byte that begins one operation with one list of operands.
func guessLone(first byte) Ins {
	switch first {
	case 0xa0:
		return Ins{Op: mov, D: al, S: atN}
	case 0xa2:
		return Ins{Op: mov, D: atN, S: al}
	case 0xc3:
		return Ins{Op: ret}
	case 0xe4:
		return Ins{Op: in, D: al, S: value}
	case 0xe6:
		return Ins{Op: out, D: value, S: al}
	case 0xe8:
		return Ins{Op: call, D: value}
	case 0xe9:
		return Ins{Op: jmp, D: value}
	case 0xeb:
		return Ins{Op: jmpShort, D: value}
	}
	for k, b := range alone {
		if b == first {
			return Ins{Op: firstAlone + k}
		}
	}
	return Ins{}
}

// guessPaired: of a head of two bytes.
func guessPaired(first, second byte) Ins {
	x := int(second >> 3 & 7)
	switch first {
	case 0x80:
		return Ins{Op: firstSum + x, D: operand(al, second), S: value}
	case 0x86:
		return Ins{Op: xchg, D: operand(al, second), S: al + x}
	case 0x87:
		return Ins{Op: xchg, D: operand(ax, second), S: ax + x}
	case 0x88:
		return Ins{Op: mov, D: operand(al, second), S: al + x}
	case 0x89:
		return Ins{Op: mov, D: operand(ax, second), S: ax + x}
	case 0x8a:
		return Ins{Op: mov, D: al + x, S: operand(al, second)}
	case 0x8b:
		return Ins{Op: mov, D: ax + x, S: operand(ax, second)}
	case 0xc6:
		return Ins{Op: mov, D: operand(al, second), S: value}
	case 0xd0:
		return Ins{Op: firstTurn + x, D: operand(al, second)}
	case 0xd1:
		return Ins{Op: firstTurn + x, D: operand(ax, second)}
	case 0xf6:
		return Ins{Op: not, D: operand(al, second)}
	case 0xfe:
		return Ins{Op: inc + x, D: operand(al, second)}
	}
	return guessSum(first, second)
}

// guessSum: of one that leaves flags, with two operands.
func guessSum(first, second byte) Ins {
	op, x := firstSum+int(first>>3), int(second>>3&7)
	switch first & 7 {
	case 0:
		return Ins{Op: op, D: operand(al, second), S: al + x}
	case 1:
		return Ins{Op: op, D: operand(ax, second), S: ax + x}
	}
	return Ins{Op: op, D: al + x, S: operand(al, second)}
}

// operand: the register, from the first one of its width on, or the place in memory that the byte names; none, if it is neither.
func operand(firstOne int, second byte) int {
	low := second & 7
	switch {
	case second >= 0xc0:
		return firstOne + int(low)
	case second >= 0x40:
		return none
	case low == placeBX:
		return atBX
	case low == placeSI:
		return atSI
	case low == placeN:
		return atN
	}
	return none
}
