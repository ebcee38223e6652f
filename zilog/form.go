package zilog

import "strconv"

// list: new memory with these texts.
func list(texts ...string) []string { return append([]string(nil), texts...) }

// within: the text in parentheses, as Zilog writes what stands at an address or a port.
func within(s string) string { return "(" + s + ")" }

// condition: of an opcode that jumps, calls or returns by one; Intel's name has it behind its first letter.
func condition(intel string) string { return intel[1:] }

// leapName: Zilog's name of an opcode that jumps, calls or returns by a condition.
func leapName(intel string) string {
	switch intel[0] {
	case 'J':
		return "JP"
	case 'C':
		return "CALL"
	}
	return "RET"
}

// nameOf: Zilog's name of an opcode without a condition.
func nameOf(intel string) string {
	switch intel {
	case "MOV", "MVI", "LXI", "STAX", "LDAX", "SHLD", "LHLD", "STA", "LDA", "SPHL":
		return "LD"
	case "INX", "INR":
		return "INC"
	case "DCX", "DCR":
		return "DEC"
	case "DAD", "ADI":
		return "ADD"
	case "ACI":
		return "ADC"
	case "SUI":
		return "SUB"
	case "SBB", "SBI":
		return "SBC"
	case "ANA", "ANI":
		return "AND"
	case "XRA", "XRI":
		return "XOR"
	case "ORA", "ORI":
		return "OR"
	case "CMP", "CPI":
		return "CP"
	case "JMP", "PCHL":
		return "JP"
	case "XTHL", "XCHG":
		return "EX"
	}
	return loneName(intel)
}

// loneName: Zilog's name of an opcode that has no operand, or is called alike by both.
func loneName(intel string) string {
	switch intel {
	case "RLC":
		return "RLCA"
	case "RRC":
		return "RRCA"
	case "RAL":
		return "RLA"
	case "RAR":
		return "RRA"
	case "CMA":
		return "CPL"
	case "STC":
		return "SCF"
	case "CMC":
		return "CCF"
	case "HLT":
		return "HALT"
	}
	return intel
}

// operands: Zilog's, for those of Intel's form of that name, in their order.
func operands(intel string, args ...string) []string {
	l := list(args...)
	for i, a := range l {
		if hasPairs(intel) {
			a = pair(a)
		}
		l[i] = operand(a)
	}
	return l
}

// hasPairs: whether the letters of Intel's form are pairs; else they are registers.
func hasPairs(intel string) bool {
	switch intel {
	case "LXI", "STAX", "LDAX", "INX", "DCX", "DAD", "PUSH", "POP":
		return true
	}
	return false
}

// pair: a pair by both its letters; what is none stays as it is.
func pair(intel string) string {
	switch intel {
	case "B":
		return "BC"
	case "D":
		return "DE"
	case "H":
		return "HL"
	case "PSW":
		return "AF"
	}
	return intel
}

// operand: what Zilog calls otherwise wherever it stands.
func operand(intel string) string {
	switch intel {
	case "M":
		return within("HL")
	case "d8":
		return "n"
	case "d16":
		return "nn"
	}
	return intel
}

// arranged: the operands of Zilog's form. Some of them Intel's has in its name alone; and those in memory stand in parentheses.
func arranged(intel string, args ...string) []string {
	switch intel {
	case "ADD", "ADC", "SBB", "ADI", "ACI", "SBI":
		return list("A", args[0])
	case "DAD":
		return list("HL", args[0])
	case "STAX", "STA", "OUT":
		return list(within(args[0]), "A")
	case "LDAX", "LDA", "IN":
		return list("A", within(args[0]))
	case "SHLD":
		return list(within(args[0]), "HL")
	case "LHLD":
		return list("HL", within(args[0]))
	case "SPHL":
		return list("SP", "HL")
	case "PCHL":
		return list(within("HL"))
	case "XTHL":
		return list(within("SP"), "HL")
	case "XCHG":
		return list("DE", "HL")
	case "RST":
		return list(restart(args[0]))
	}
	return args
}

// restart: where RST goes to, by its number's digit.
func restart(digit string) string { return strconv.Itoa(8 * int(digit[0]-'0')) }
