package isa86

// The operations that are told one by one; those of one kind have numbers that follow each other.
const (
	mov        = 1
	firstSum   = 2
	lastSum    = 9
	inc        = 10
	dec        = 11
	firstTurn  = 12
	lastTurn   = 15
	not        = 16
	xchg       = 17
	push       = 18
	pop        = 19
	firstAlone = 20
	lastAlone  = 29
	in         = 30
	out        = 31
	jmp        = 32
	jmpShort   = 33
	call       = 34
	ret        = 35
)

// The operands that are told one by one.
const (
	none  = 0
	al    = 1
	ax    = 9
	atBX  = 17
	atSI  = 18
	atN   = 19
	value = 20
)

// alone: the bytes of the operations that have no operand, from firstAlone on.
var alone = [...]byte{0x9f, 0x9e, 0x27, 0xf5, 0xf9, 0xf8, 0xfb, 0xfa, 0xf4, 0x90}

// formOf: of an operation with these operands.
func formOf(op, d, s int) form {
	switch {
	case op == mov:
		return move(d, s)
	case op >= firstSum && op <= lastSum:
		return sum(byte(op-firstSum), d, s)
	case op == inc || op == dec:
		return step(byte(op-inc), d, s)
	case op >= firstTurn && op <= lastTurn:
		return turn(byte(op-firstTurn), d, s)
	case op == xchg:
		return exchange(d, s)
	case op == in || op == out:
		return port(op, d, s)
	case op == not || op == push || op == pop:
		return single(op, d, s)
	case byCondition(op):
		return leap(aLeap, condition(op), d, s)
	}
	return plain(op, d, s)
}

// isByte, isWord: whether the operand is a register of 8 bits, of 16 bits.
func isByte(code int) bool { return code >= 1 && code <= 8 }
func isWord(code int) bool { return code >= 9 && code <= 16 }

// number: of a register, 0 to 7.
func number(code int) byte { return (byte(code) - 1) & 7 }

// both: the byte that names two registers, or a register and which operation it is.
func both(x, y byte) byte { return 0xc0 | x<<3 | y }

// there: the byte that names a register, or an operation, and a place in memory.
func there(x, place byte) byte { return x<<3 | place }

// The places in memory, as that byte has them.
const (
	placeSI = 4
	placeN  = 6
	placeBX = 7
)

// byCondition: whether the operation is a jump by one; those by an overflow, and by "above", there are none of.
func byCondition(op int) bool {
	switch op {
	case 42, 43, 44, 45, 48, 49, 50, 51:
		return true
	}
	return false
}

// condition: the byte of a jump by one.
func condition(op int) byte { return 0x70 | byte(op-40) }

func move(d, s int) form {
	x, y := number(d), number(s)
	switch {
	case isByte(d) && isByte(s):
		return made(aNone, 0x88, both(y, x))
	case isWord(d) && isWord(s):
		return made(aNone, 0x89, both(y, x))
	case isByte(d) && s == atBX:
		return made(aNone, 0x8a, there(x, placeBX))
	case d == atBX && isByte(s):
		return made(aNone, 0x88, there(y, placeBX))
	case d == al && s == atSI:
		return made(aNone, 0x8a, there(x, placeSI))
	case d == atSI && s == al:
		return made(aNone, 0x88, there(y, placeSI))
	case isByte(d) && s == value:
		return made(aByte, 0xb0+x)
	case isWord(d) && s == value:
		return made(aWord, 0xb8+x)
	case d == atBX && s == value:
		return made(aByte, 0xc6, placeBX)
	}
	return moveFar(d, s)
}

// moveFar: between a register and memory at a number.
func moveFar(d, s int) form {
	x, y := number(d), number(s)
	switch {
	case d == al && s == atN:
		return made(aWord, 0xa0)
	case d == atN && s == al:
		return made(aWord, 0xa2)
	case isWord(d) && d != ax && s == atN:
		return made(aWord, 0x8b, there(x, placeN))
	case d == atN && isWord(s) && s != ax:
		return made(aWord, 0x89, there(y, placeN))
	}
	return form{}
}

// sum: the operations of two operands that leave flags.
func sum(k byte, d, s int) form {
	x, y := number(d), number(s)
	switch {
	case isByte(d) && isByte(s):
		return made(aNone, 8*k, both(y, x))
	case isWord(d) && isWord(s):
		return made(aNone, 8*k+1, both(y, x))
	case isByte(d) && s == atBX:
		return made(aNone, 8*k+2, there(x, placeBX))
	case d == al && s == value:
		return made(aByte, 8*k+4)
	case isByte(d) && s == value:
		return made(aByte, 0x80, both(k, x))
	}
	return form{}
}

func step(k byte, d, s int) form {
	switch {
	case s != none:
		return form{}
	case isByte(d):
		return made(aNone, 0xfe, both(k, number(d)))
	case isWord(d):
		return made(aNone, 0x40|8*k|number(d))
	case d == atBX:
		return made(aNone, 0xfe, there(k, placeBX))
	}
	return form{}
}

func turn(k byte, d, s int) form {
	switch {
	case s != none:
		return form{}
	case isByte(d):
		return made(aNone, 0xd0, both(k, number(d)))
	case isWord(d):
		return made(aNone, 0xd1, both(k, number(d)))
	}
	return form{}
}

func exchange(d, s int) form {
	x, y := number(d), number(s)
	switch {
	case isByte(d) && isByte(s):
		return made(aNone, 0x86, both(y, x))
	case isWord(d) && isWord(s) && d != ax && s != ax:
		return made(aNone, 0x87, both(y, x))
	}
	return form{}
}

func port(op, d, s int) form {
	switch {
	case op == in && d == al && s == value:
		return made(aByte, 0xe4)
	case op == out && d == value && s == al:
		return made(aByte, 0xe6)
	}
	return form{}
}

// single: the operations that have one register of one width.
func single(op, d, s int) form {
	switch {
	case s != none:
		return form{}
	case op == not && isByte(d):
		return made(aNone, 0xf6, both(2, number(d)))
	case op == push && isWord(d):
		return made(aNone, 0x50+number(d))
	case op == pop && isWord(d):
		return made(aNone, 0x58+number(d))
	}
	return form{}
}

// leap: what goes a number of bytes further.
func leap(tail int, op byte, d, s int) form {
	if d != value || s != none {
		return form{}
	}
	return made(tail, op)
}

// plain: the operations that have one byte of their own, whatever comes behind.
func plain(op, d, s int) form {
	switch op {
	case jmp:
		return leap(aWord, 0xe9, d, s)
	case jmpShort:
		return leap(aLeap, 0xeb, d, s)
	case call:
		return leap(aWord, 0xe8, d, s)
	}
	if d != none || s != none {
		return form{}
	}
	switch {
	case op == ret:
		return made(aNone, 0xc3)
	case op >= firstAlone && op <= lastAlone:
		return made(aNone, alone[op-firstAlone])
	}
	return form{}
}
