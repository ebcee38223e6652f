package zilog

import "slices"

// words: a list of them.
type words []string

// has: whether it is one of them, in just these letters.
func (w words) has(s string) bool { return slices.Contains(w, s) }

// vocabulary: what is kept for operands, and can't be a name.
type vocabulary struct{ words }

func keeping(w ...string) vocabulary { return vocabulary{words: w} }

func intelWords() vocabulary {
	return keeping("A", "B", "C", "D", "E", "H", "L", "M", "SP", "PSW")
}

func zilogWords() vocabulary {
	return keeping("A", "B", "C", "D", "E", "H", "L", "AF", "BC", "DE", "HL", "SP",
		"NZ", "Z", "NC", "PO", "PE", "P", "M")
}

func eightWords() vocabulary {
	return keeping("AL", "CL", "DL", "BL", "AH", "CH", "DH", "BH",
		"AX", "CX", "DX", "BX", "SP", "BP", "SI", "DI")
}

// allWords: what every dialect keeps: the operators that are words.
func allWords() vocabulary {
	return keeping("OR", "XOR", "AND", "NOT", "MOD", "SHL", "SHR")
}
