package isa80

// What stands in a form for a byte, and for a word.
const (
	single = "d8"
	word   = "d16"
)

var (
	registers  = [8]string{"B", "C", "D", "E", "H", "L", "M", "A"}
	pairs      = [4]string{"B", "D", "H", "SP"}
	conditions = [8]string{"NZ", "Z", "NC", "C", "PO", "PE", "P", "M"}
	reckoners  = [8]string{"ADD", "ADC", "SUB", "SBB", "ANA", "XRA", "ORA", "CMP"}
	numbered   = [8]string{"ADI", "ACI", "SUI", "SBI", "ANI", "XRI", "ORI", "CPI"}
	turns      = [8]string{"RLC", "RRC", "RAL", "RAR", "DAA", "CMA", "STC", "CMC"}
)

// form: an opcode's name, and its first count operands; one without a name is undocumented.
type form struct {
	name  string
	args  [2]string
	count int
}

func formed(name string, args ...string) form {
	f := form{name: name}
	f.count = copy(f.args[:], args)
	return f
}

// operands: they share memory with the form; who hands them out makes new memory.
func (f *form) operands() []string { return f.args[:f.count] }

// has: whether an operand is just this.
func (f *form) has(arg string) bool { return place(arg, f.operands()...) >= 0 }

// place: where x stands in a list; -1, if it does not.
func place[T comparable](x T, list ...T) int {
	for i, y := range list {
		if x == y {
			return i
		}
	}
	return -1
}

// same: whether both lists are alike.
func same[T comparable](a []T, b ...T) bool {
	if len(a) != len(b) {
		return false
	}
	for i := range a {
		if a[i] != b[i] {
			return false
		}
	}
	return true
}

// middle: bits 3 to 5 of an opcode.
func middle(op byte) byte { return op >> 3 & 7 }

// high: bits 4 and 5 of an opcode.
func high(op byte) byte { return op >> 4 & 3 }

// odd: bit 3 of an opcode, by which two forms of a pair differ.
func odd(op byte) bool { return op&8 != 0 }

// formOf: an opcode's form, by its two highest bits.
func formOf(op byte) form {
	switch op >> 6 {
	case 0:
		return lowForm(op)
	case 1:
		if op == 0x76 {
			return formed("HLT")
		}
		return formed("MOV", registers[middle(op)], registers[op&7])
	case 2:
		return formed(reckoners[middle(op)], registers[op&7])
	}
	return highForm(op)
}

// lowForm: of an opcode below 40 of base 16.
func lowForm(op byte) form {
	pair, register := pairs[high(op)], registers[middle(op)]
	switch op & 7 {
	case 0:
		if op == 0 {
			return formed("NOP")
		}
	case 1:
		if odd(op) {
			return formed("DAD", pair)
		}
		return formed("LXI", pair, word)
	case 2:
		return storeForm(op)
	case 3:
		if odd(op) {
			return formed("DCX", pair)
		}
		return formed("INX", pair)
	case 4:
		return formed("INR", register)
	case 5:
		return formed("DCR", register)
	case 6:
		return formed("MVI", register, single)
	case 7:
		return formed(turns[middle(op)])
	}
	return form{}
}

// storeForm: of an opcode that brings A or H to memory, or back.
func storeForm(op byte) form {
	switch middle(op) {
	case 0, 2:
		return formed("STAX", pairs[high(op)])
	case 1, 3:
		return formed("LDAX", pairs[high(op)])
	case 4:
		return formed("SHLD", word)
	case 5:
		return formed("LHLD", word)
	case 6:
		return formed("STA", word)
	}
	return formed("LDA", word)
}

// highForm: of an opcode from C0 of base 16 on.
func highForm(op byte) form {
	condition := conditions[middle(op)]
	switch op & 7 {
	case 0:
		return formed("R" + condition)
	case 1:
		if odd(op) {
			return leapForm(op)
		}
		return formed("POP", stacked(op))
	case 2:
		return formed("J"+condition, word)
	case 3:
		return mixedForm(op)
	case 4:
		return formed("C"+condition, word)
	case 5:
		return pushForm(op)
	case 6:
		return formed(numbered[middle(op)], single)
	}
	return formed("RST", string('0'+rune(middle(op))))
}

// stacked: the pair that goes onto the stack, or comes off it.
func stacked(op byte) string {
	if high(op) == 3 {
		return "PSW"
	}
	return pairs[high(op)]
}

// leapForm: of an opcode by which PC or SP gets a word that is there already.
func leapForm(op byte) form {
	switch high(op) {
	case 0:
		return formed("RET")
	case 2:
		return formed("PCHL")
	case 3:
		return formed("SPHL")
	}
	return form{}
}

// pushForm: of an opcode that puts a word onto the stack.
func pushForm(op byte) form {
	switch {
	case !odd(op):
		return formed("PUSH", stacked(op))
	case high(op) == 0:
		return formed("CALL", word)
	}
	return form{}
}

// mixedForm: of the opcodes that no rule of bits binds together.
func mixedForm(op byte) form {
	switch middle(op) {
	case 0:
		return formed("JMP", word)
	case 2:
		return formed("OUT", single)
	case 3:
		return formed("IN", single)
	case 4:
		return formed("XTHL")
	case 5:
		return formed("XCHG")
	case 6:
		return formed("DI")
	case 7:
		return formed("EI")
	}
	return form{}
}
