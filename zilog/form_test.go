package zilog

import (
	"slices"
	"strconv"
	"strings"
	"testing"

	"pidgin/isa80"
)

// sheet: all forms, sixteen to a line, as a manual of Zilog's lists them; - stands for an undocumented one.
const sheet = `NOP; LD BC nn; LD (BC) A; INC BC; INC B; DEC B; LD B n; RLCA; -; ADD HL BC; LD A (BC); DEC BC; INC C; DEC C; LD C n; RRCA
-; LD DE nn; LD (DE) A; INC DE; INC D; DEC D; LD D n; RLA; -; ADD HL DE; LD A (DE); DEC DE; INC E; DEC E; LD E n; RRA
-; LD HL nn; LD (nn) HL; INC HL; INC H; DEC H; LD H n; DAA; -; ADD HL HL; LD HL (nn); DEC HL; INC L; DEC L; LD L n; CPL
-; LD SP nn; LD (nn) A; INC SP; INC (HL); DEC (HL); LD (HL) n; SCF; -; ADD HL SP; LD A (nn); DEC SP; INC A; DEC A; LD A n; CCF
LD B B; LD B C; LD B D; LD B E; LD B H; LD B L; LD B (HL); LD B A; LD C B; LD C C; LD C D; LD C E; LD C H; LD C L; LD C (HL); LD C A
LD D B; LD D C; LD D D; LD D E; LD D H; LD D L; LD D (HL); LD D A; LD E B; LD E C; LD E D; LD E E; LD E H; LD E L; LD E (HL); LD E A
LD H B; LD H C; LD H D; LD H E; LD H H; LD H L; LD H (HL); LD H A; LD L B; LD L C; LD L D; LD L E; LD L H; LD L L; LD L (HL); LD L A
LD (HL) B; LD (HL) C; LD (HL) D; LD (HL) E; LD (HL) H; LD (HL) L; HALT; LD (HL) A; LD A B; LD A C; LD A D; LD A E; LD A H; LD A L; LD A (HL); LD A A
ADD A B; ADD A C; ADD A D; ADD A E; ADD A H; ADD A L; ADD A (HL); ADD A A; ADC A B; ADC A C; ADC A D; ADC A E; ADC A H; ADC A L; ADC A (HL); ADC A A
SUB B; SUB C; SUB D; SUB E; SUB H; SUB L; SUB (HL); SUB A; SBC A B; SBC A C; SBC A D; SBC A E; SBC A H; SBC A L; SBC A (HL); SBC A A
AND B; AND C; AND D; AND E; AND H; AND L; AND (HL); AND A; XOR B; XOR C; XOR D; XOR E; XOR H; XOR L; XOR (HL); XOR A
OR B; OR C; OR D; OR E; OR H; OR L; OR (HL); OR A; CP B; CP C; CP D; CP E; CP H; CP L; CP (HL); CP A
RET NZ; POP BC; JP NZ nn; JP nn; CALL NZ nn; PUSH BC; ADD A n; RST 0; RET Z; RET; JP Z nn; -; CALL Z nn; CALL nn; ADC A n; RST 8
RET NC; POP DE; JP NC nn; OUT (n) A; CALL NC nn; PUSH DE; SUB n; RST 16; RET C; -; JP C nn; IN A (n); CALL C nn; -; SBC A n; RST 24
RET PO; POP HL; JP PO nn; EX (SP) HL; CALL PO nn; PUSH HL; AND n; RST 32; RET PE; JP (HL); JP PE nn; EX DE HL; CALL PE nn; -; XOR n; RST 40
RET P; POP AF; JP P nn; DI; CALL P nn; PUSH AF; OR n; RST 48; RET M; LD SP HL; JP M nn; EI; CALL M nn; -; CP n; RST 56`

// shape: what the manual says of an opcode.
type shape struct {
	name string
	args []string
}

// shapes: of all opcodes, by the sheet.
func shapes() [256]shape {
	var l [256]shape
	op := 0
	for row := range strings.SplitSeq(sheet, "\n") {
		for form := range strings.SplitSeq(row, "; ") {
			if form != "-" {
				w := strings.Split(form, " ")
				l[op] = shape{w[0], w[1:]}
			}
			op++
		}
	}
	return l
}

// is: the opcode has this name and these operands.
func is(t *testing.T, op int, name string, args ...string) {
	t.Helper()
	if n, a := Name(byte(op)), Args(byte(op)); n != name || !slices.Equal(a, args) {
		t.Errorf("%x: %q %q, not %q %q", op, n, a, name, args)
	}
}

// finds: the name and these operands are the opcode's.
func finds(t *testing.T, op byte, name string, args ...string) {
	t.Helper()
	if got, ok := Find(name, args...); got != op || !ok {
		t.Errorf("Find of %q %q: %x %v, not %x", name, args, got, ok, op)
	}
}

// findsNone: the name and these operands are no opcode's.
func findsNone(t *testing.T, name string, args ...string) {
	t.Helper()
	if got, ok := Find(name, args...); got != 0 || ok {
		t.Errorf("Find of %q %q: %x %v", name, args, got, ok)
	}
}

// The chapter's example of a form.
func TestExample(t *testing.T) {
	is(t, 0x7e, "LD", "A", "(HL)")
	finds(t, 0x7e, "LD", "A", "(HL)")
}

// P701: each opcode is as the manual lists it.
func TestForms(t *testing.T) {
	for op, s := range shapes() {
		is(t, op, s.name, s.args...)
	}
}

// P701: of an undocumented one there is nothing.
func TestUndocumented(t *testing.T) {
	for _, op := range []int{0x08, 0x10, 0x18, 0x20, 0x28, 0x30, 0x38, 0xcb, 0xd9, 0xdd, 0xed, 0xfd} {
		is(t, op, "")
	}
}

// P701: the rows of registers, which M is one of as (HL), by the bits of the opcode.
func TestRegisters(t *testing.T) {
	all := strings.Fields("B C D E H L (HL) A")
	for r, x := range all {
		is(t, 0x04+8*r, "INC", x)
		is(t, 0x05+8*r, "DEC", x)
		is(t, 0x06+8*r, "LD", x, "n")
		for s, y := range all {
			if r != 6 || s != 6 {
				is(t, 0x40+8*r+s, "LD", x, y)
			}
		}
	}
	is(t, 0x76, "HALT")
}

// P701: the A stands ahead of the other operand of three names, of a register as of a number, and of no more.
func TestReckoners(t *testing.T) {
	for k, form := range []string{"ADD A", "ADC A", "SUB", "SBC A", "AND", "XOR", "OR", "CP"} {
		w := strings.Fields(form)
		for s, x := range strings.Fields("B C D E H L (HL) A") {
			is(t, 0x80+8*k+s, w[0], append(slices.Clone(w[1:]), x)...)
		}
		is(t, 0xc6+8*k, w[0], append(slices.Clone(w[1:]), "n")...)
	}
}

// P701: the rows of pairs; the last one of the stack is AF.
func TestPairs(t *testing.T) {
	for p, x := range strings.Fields("BC DE HL SP") {
		is(t, 0x01+16*p, "LD", x, "nn")
		is(t, 0x03+16*p, "INC", x)
		is(t, 0x0b+16*p, "DEC", x)
		is(t, 0x09+16*p, "ADD", "HL", x)
	}
	for p, x := range strings.Fields("BC DE HL AF") {
		is(t, 0xc1+16*p, "POP", x)
		is(t, 0xc5+16*p, "PUSH", x)
	}
}

// P701: the rows with a condition (M is one there, and C, which are no registers), and RST's addresses.
func TestConditions(t *testing.T) {
	for c, x := range strings.Fields("NZ Z NC C PO PE P M") {
		is(t, 0xc0+8*c, "RET", x)
		is(t, 0xc2+8*c, "JP", x, "nn")
		is(t, 0xc4+8*c, "CALL", x, "nn")
		is(t, 0xc7+8*c, "RST", strconv.Itoa(8*c))
	}
	is(t, 0xc9, "RET")
	is(t, 0xc3, "JP", "nn")
	is(t, 0xcd, "CALL", "nn")
}

// P701: the rows that hold for one opcode, or two.
func TestSingles(t *testing.T) {
	is(t, 0x02, "LD", "(BC)", "A")
	is(t, 0x12, "LD", "(DE)", "A")
	is(t, 0x0a, "LD", "A", "(BC)")
	is(t, 0x1a, "LD", "A", "(DE)")
	is(t, 0x22, "LD", "(nn)", "HL")
	is(t, 0x2a, "LD", "HL", "(nn)")
	is(t, 0x32, "LD", "(nn)", "A")
	is(t, 0x3a, "LD", "A", "(nn)")
	is(t, 0xf9, "LD", "SP", "HL")
	is(t, 0xe9, "JP", "(HL)")
	is(t, 0xe3, "EX", "(SP)", "HL")
	is(t, 0xeb, "EX", "DE", "HL")
	is(t, 0xd3, "OUT", "(n)", "A")
	is(t, 0xdb, "IN", "A", "(n)")
	for k, x := range strings.Fields("RLCA RRCA RLA RRA DAA CPL SCF CCF") {
		is(t, 0x07+8*k, x)
	}
	is(t, 0x00, "NOP")
	is(t, 0xf3, "DI")
	is(t, 0xfb, "EI")
}

// P701: each documented opcode is found by its form, and by nothing near it.
func TestFind(t *testing.T) {
	for op, s := range shapes() {
		if s.name == "" {
			continue
		}
		finds(t, byte(op), s.name, s.args...)
		findsNone(t, s.name, append(slices.Clone(s.args), "B")...)
		findsNone(t, s.name, append(slices.Clone(s.args), "")...)
		findsNone(t, s.name, append([]string{""}, s.args...)...)
		findsNone(t, strings.ToLower(s.name), s.args...)
		findsNone(t, " "+s.name, s.args...)
		findsNone(t, s.name+" ", s.args...)
		findsNone(t, "", s.args...)
		for k := range s.args {
			other := slices.Clone(s.args)
			for _, x := range []string{"", " " + s.args[k], s.args[k] + " ", "(" + s.args[k] + ")", s.args[k] + "_"} {
				other[k] = x
				if x != "(HL)" && x != "(BC)" && x != "(DE)" && x != "(nn)" {
					findsNone(t, s.name, other...)
				}
			}
		}
	}
}

// P701: of every name with every three operands, or fewer, just those are found that the sheet has; Intel's are asked, too.
func TestFindOnly(t *testing.T) {
	names, words, forms := map[string]int{}, map[string]int{}, map[string]byte{}
	for i, s := range shapes() {
		names[isa80.Name(byte(i))]++
		for _, a := range append(isa80.Args(byte(i)), s.args...) {
			words[a]++
		}
		if s.name != "" {
			names[s.name]++
			forms[strings.Join(append([]string{s.name}, s.args...), " ")] = byte(i)
		}
	}
	ask := func(name string, args ...string) {
		op, ok := forms[strings.Join(append([]string{name}, args...), " ")]
		if got, found := Find(name, args...); got != op || found != ok {
			t.Errorf("Find of %q %q: %x %v, not %x %v", name, args, got, found, op, ok)
		}
	}
	for name := range names {
		ask(name)
		for a := range words {
			ask(name, a)
			ask(name, a, "A", "A")
			for b := range words {
				ask(name, a, b)
			}
		}
	}
}

// P701: names and operands that are none.
func TestFindNone(t *testing.T) {
	findsNone(t, "")
	findsNone(t, "", "")
	findsNone(t, "", "A")
	findsNone(t, "A")
	findsNone(t, "LD")
	findsNone(t, "LD", "A")
	findsNone(t, "LD", "A", "B", "C")
	findsNone(t, "LD", "A,B")
	findsNone(t, "LD", "a", "b")
	findsNone(t, "ld", "A", "B")
	findsNone(t, "LD", "(HL)", "(HL)")
	findsNone(t, "LD", "A", "M")
	findsNone(t, "LD", "n", "A")
	findsNone(t, "LD", "nn", "BC")
	findsNone(t, "LD", "A", "d8")
	findsNone(t, "LD", "A", "N")
	findsNone(t, "LD", "A", "nn")
	findsNone(t, "LD", "BC", "n")
	findsNone(t, "LD", "BC", "(nn)")
	findsNone(t, "LD", "(nn)", "BC")
	findsNone(t, "LD", "B", "(nn)")
	findsNone(t, "LD", "(BC)", "B")
	findsNone(t, "LD", "(SP)", "A")
	findsNone(t, "LD", "HL", "SP")
	findsNone(t, "LD", "AF", "nn")
	findsNone(t, "INC", "AF")
	findsNone(t, "INC", "M")
	findsNone(t, "ADD", "B")
	findsNone(t, "ADD", "n")
	findsNone(t, "ADD", "B", "A")
	findsNone(t, "ADD", "HL", "AF")
	findsNone(t, "ADC", "HL", "BC")
	findsNone(t, "SBC", "B")
	findsNone(t, "SUB", "A", "B")
	findsNone(t, "CP", "A", "n")
	findsNone(t, "PUSH", "SP")
	findsNone(t, "POP", "PSW")
	findsNone(t, "JP", "HL")
	findsNone(t, "JP", "nn", "Z")
	findsNone(t, "JP", "NV", "nn")
	findsNone(t, "JP", "(nn)")
	findsNone(t, "JP", "Z")
	findsNone(t, "RET", "nn")
	findsNone(t, "EX", "HL", "(SP)")
	findsNone(t, "EX", "HL", "DE")
	findsNone(t, "EX", "AF", "AF")
	findsNone(t, "OUT", "A", "(n)")
	findsNone(t, "OUT", "n", "A")
	findsNone(t, "IN", "A", "n")
	findsNone(t, "IN", "(n)", "A")
	findsNone(t, "IN", "(n)")
	for n := range 100 {
		if n%8 != 0 || n > 56 {
			findsNone(t, "RST", strconv.Itoa(n))
		}
	}
	findsNone(t, "RST", "08")
	findsNone(t, "RST", "8H")
	findsNone(t, "RST", "n")
	findsNone(t, "RST")
	findsNone(t, "MOV", "A", "B")
	findsNone(t, "HLT")
	findsNone(t, "JNZ", "nn")
	findsNone(t, "DJNZ", "nn")
	findsNone(t, "EXX")
	findsNone(t, "HALT", "")
}

// P701: the list of operands stays as it was, its spare room too.
func TestFindKeeps(t *testing.T) {
	l := []string{"A", "(HL)", "C", "D"}
	if op, ok := Find("LD", l[:2]...); op != 0x7e || !ok || !slices.Equal(l, []string{"A", "(HL)", "C", "D"}) {
		t.Errorf("LD A, (HL): %x %v, then %q", op, ok, l)
	}
	if op, ok := Find("LD", l[1:3]...); op != 0x71 || !ok || !slices.Equal(l, []string{"A", "(HL)", "C", "D"}) {
		t.Errorf("LD (HL), C: %x %v, then %q", op, ok, l)
	}
}

// Rule 4: what is handed out is new memory, spare room too.
func TestNewMemory(t *testing.T) {
	for i, s := range shapes() {
		op := byte(i)
		before := isa80.Args(op)
		a, b := Args(op), Args(op)
		a = a[:cap(a)]
		for k := range a {
			a[k] = "spoilt"
		}
		if !slices.Equal(b, s.args) || !slices.Equal(Args(op), s.args) || !slices.Equal(isa80.Args(op), before) {
			t.Errorf("%x: %q, %q, Intel's %q", op, b, Args(op), isa80.Args(op))
		}
		if s.name != "" {
			finds(t, op, s.name, s.args...)
		}
	}
}

// P704: each documented opcode has two forms, one of Intel's and one of Zilog's, each of it alone.
func TestTwoForms(t *testing.T) {
	forms := map[string]int{}
	for i := range 256 {
		op := byte(i)
		if (isa80.Name(op) == "") != (Name(op) == "") {
			t.Errorf("%x: %q, but of Intel's %q", op, Name(op), isa80.Name(op))
		}
		if Name(op) == "" {
			continue
		}
		forms[Name(op)+" "+strings.Join(Args(op), ",")]++
		if back, ok := isa80.Find(isa80.Name(op), isa80.Args(op)...); back != op || !ok {
			t.Errorf("%x: Intel's form is of %x", op, back)
		}
		finds(t, op, Name(op), Args(op)...)
	}
	if len(forms) != 244 {
		t.Errorf("%d forms", len(forms))
	}
}
