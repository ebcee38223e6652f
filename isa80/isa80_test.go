package isa80

import (
	"slices"
	"strconv"
	"strings"
	"testing"

	"pidgin/api"
)

// sheet: all forms, sixteen to a line, as a manual lists them; - stands for an undocumented one.
const sheet = `NOP; LXI B d16; STAX B; INX B; INR B; DCR B; MVI B d8; RLC; -; DAD B; LDAX B; DCX B; INR C; DCR C; MVI C d8; RRC
-; LXI D d16; STAX D; INX D; INR D; DCR D; MVI D d8; RAL; -; DAD D; LDAX D; DCX D; INR E; DCR E; MVI E d8; RAR
-; LXI H d16; SHLD d16; INX H; INR H; DCR H; MVI H d8; DAA; -; DAD H; LHLD d16; DCX H; INR L; DCR L; MVI L d8; CMA
-; LXI SP d16; STA d16; INX SP; INR M; DCR M; MVI M d8; STC; -; DAD SP; LDA d16; DCX SP; INR A; DCR A; MVI A d8; CMC
MOV B B; MOV B C; MOV B D; MOV B E; MOV B H; MOV B L; MOV B M; MOV B A; MOV C B; MOV C C; MOV C D; MOV C E; MOV C H; MOV C L; MOV C M; MOV C A
MOV D B; MOV D C; MOV D D; MOV D E; MOV D H; MOV D L; MOV D M; MOV D A; MOV E B; MOV E C; MOV E D; MOV E E; MOV E H; MOV E L; MOV E M; MOV E A
MOV H B; MOV H C; MOV H D; MOV H E; MOV H H; MOV H L; MOV H M; MOV H A; MOV L B; MOV L C; MOV L D; MOV L E; MOV L H; MOV L L; MOV L M; MOV L A
MOV M B; MOV M C; MOV M D; MOV M E; MOV M H; MOV M L; HLT; MOV M A; MOV A B; MOV A C; MOV A D; MOV A E; MOV A H; MOV A L; MOV A M; MOV A A
ADD B; ADD C; ADD D; ADD E; ADD H; ADD L; ADD M; ADD A; ADC B; ADC C; ADC D; ADC E; ADC H; ADC L; ADC M; ADC A
SUB B; SUB C; SUB D; SUB E; SUB H; SUB L; SUB M; SUB A; SBB B; SBB C; SBB D; SBB E; SBB H; SBB L; SBB M; SBB A
ANA B; ANA C; ANA D; ANA E; ANA H; ANA L; ANA M; ANA A; XRA B; XRA C; XRA D; XRA E; XRA H; XRA L; XRA M; XRA A
ORA B; ORA C; ORA D; ORA E; ORA H; ORA L; ORA M; ORA A; CMP B; CMP C; CMP D; CMP E; CMP H; CMP L; CMP M; CMP A
RNZ; POP B; JNZ d16; JMP d16; CNZ d16; PUSH B; ADI d8; RST 0; RZ; RET; JZ d16; -; CZ d16; CALL d16; ACI d8; RST 1
RNC; POP D; JNC d16; OUT d8; CNC d16; PUSH D; SUI d8; RST 2; RC; -; JC d16; IN d8; CC d16; -; SBI d8; RST 3
RPO; POP H; JPO d16; XTHL; CPO d16; PUSH H; ANI d8; RST 4; RPE; PCHL; JPE d16; XCHG; CPE d16; -; XRI d8; RST 5
RP; POP PSW; JP d16; DI; CP d16; PUSH PSW; ORI d8; RST 6; RM; SPHL; JM d16; EI; CM d16; -; CPI d8; RST 7`

// shape: what the manual says of an opcode.
type shape struct {
	name string
	args []string
	size int
}

// shapes: of all opcodes, by the sheet.
func shapes() [256]shape {
	var l [256]shape
	op := 0
	for row := range strings.SplitSeq(sheet, "\n") {
		for form := range strings.SplitSeq(row, "; ") {
			if form != "-" {
				w := strings.Split(form, " ")
				l[op] = shape{w[0], w[1:], 1 + strings.Count(form, "d8") + 2*strings.Count(form, "d16")}
			}
			op++
		}
	}
	return l
}

// finds: the name and these operands are the opcode's.
func finds(t *testing.T, op byte, name string, args ...string) {
	t.Helper()
	if got, ok := Find(name, args...); got != op || !ok {
		t.Errorf("Find of %q %q: %x %v, not %x", name, args, got, ok, op)
	}
}

// findsNone: the name and these operands are no opcode's.
func findsNone(t *testing.T, name string, args ...string) {
	t.Helper()
	if got, ok := Find(name, args...); got != 0 || ok {
		t.Errorf("Find of %q %q: %x %v", name, args, got, ok)
	}
}

// puts: the bytes of an instruction, or its error.
func puts(t *testing.T, i Ins, b []byte, k api.Kind) {
	t.Helper()
	if got, kind := Bytes(i); !slices.Equal(got, b) || kind != k {
		t.Errorf("Bytes of %x: % x, kind %d, not % x, kind %d", i, got, kind, b, k)
	}
}

// reads: the instruction at the begin of the bytes and its size, or its error.
func reads(t *testing.T, b []byte, i Ins, size int, k api.Kind) {
	t.Helper()
	if got, n, kind := Read(b); got != i || n != size || kind != k {
		t.Errorf("Read of % x: %x, %d, kind %d, not %x, %d, kind %d", b, got, n, kind, i, size, k)
	}
}

// The chapter's example.
func TestExample(t *testing.T) {
	finds(t, 0x78, "MOV", "A", "B")
	if n, a := Name(0x78), Args(0x78); n != "MOV" || !slices.Equal(a, []string{"A", "B"}) {
		t.Errorf("78: %s %q", n, a)
	}
	puts(t, Ins{0xc3, 0x1234}, []byte{0xc3, 0x34, 0x12}, api.OK)
	reads(t, []byte{0xc3, 0x34, 0x12}, Ins{0xc3, 0x1234}, 3, api.OK)
}

// P601: each opcode is as the manual lists it.
func TestForms(t *testing.T) {
	for i, s := range shapes() {
		op := byte(i)
		if Size(op) != s.size || Name(op) != s.name || !slices.Equal(Args(op), s.args) {
			t.Errorf("%x: %d, %q %q, not %d, %q %q", op, Size(op), Name(op), Args(op), s.size, s.name, s.args)
		}
	}
}

// P601: of an undocumented one there is nothing, not a size either.
func TestUndocumented(t *testing.T) {
	for _, op := range []byte{0x08, 0x10, 0x18, 0x20, 0x28, 0x30, 0x38, 0xcb, 0xd9, 0xdd, 0xed, 0xfd} {
		if Size(op) != 0 || Name(op) != "" || len(Args(op)) != 0 {
			t.Errorf("%x: %d, %q %q", op, Size(op), Name(op), Args(op))
		}
		if Jumps(op) || Ends(op) || Cond(op) != -1 {
			t.Errorf("%x: %v %v %d", op, Jumps(op), Ends(op), Cond(op))
		}
		puts(t, Ins{op, 0}, nil, api.Undocumented)
		reads(t, []byte{op, 0, 0}, Ins{}, 0, api.Undocumented)
	}
}

// P601: the bits of an opcode are the numbers of its registers, pairs, conditions and digits.
func TestBits(t *testing.T) {
	is := func(op int, name string, args ...string) {
		t.Helper()
		if n, a := Name(byte(op)), Args(byte(op)); n != name || !slices.Equal(a, args) {
			t.Errorf("%x: %s %q, not %s %q", op, n, a, name, args)
		}
	}
	for r, x := range strings.Fields("B C D E H L M A") {
		is(0x04+8*r, "INR", x)
		is(0x05+8*r, "DCR", x)
		is(0x06+8*r, "MVI", x, "d8")
		is(0xc7+8*r, "RST", strconv.Itoa(r))
		for s, y := range strings.Fields("B C D E H L M A") {
			if r != 6 || s != 6 {
				is(0x40+8*r+s, "MOV", x, y)
			}
		}
	}
	for k, x := range strings.Fields("ADD ADC SUB SBB ANA XRA ORA CMP") {
		for s, y := range strings.Fields("B C D E H L M A") {
			is(0x80+8*k+s, x, y)
		}
	}
	for k, x := range strings.Fields("ADI ACI SUI SBI ANI XRI ORI CPI") {
		is(0xc6+8*k, x, "d8")
	}
	for p, x := range strings.Fields("B D H SP") {
		is(0x01+16*p, "LXI", x, "d16")
		is(0x03+16*p, "INX", x)
		is(0x0b+16*p, "DCX", x)
		is(0x09+16*p, "DAD", x)
	}
	for p, x := range strings.Fields("B D H PSW") {
		is(0xc1+16*p, "POP", x)
		is(0xc5+16*p, "PUSH", x)
	}
	for c, x := range strings.Fields("NZ Z NC C PO PE P M") {
		is(0xc0+8*c, "R"+x)
		is(0xc2+8*c, "J"+x, "d16")
		is(0xc4+8*c, "C"+x, "d16")
	}
	is(0x76, "HLT")
}

// P602: each documented opcode is found by its form, and no other form is one's.
func TestFind(t *testing.T) {
	all := shapes()
	for i, s := range all {
		if s.name == "" {
			continue
		}
		op := byte(i)
		finds(t, op, s.name, s.args...)
		findsNone(t, s.name, append(slices.Clone(s.args), "B")...)
		findsNone(t, s.name, append(slices.Clone(s.args), "")...)
		findsNone(t, s.name, append([]string{"A"}, s.args...)...)
		findsNone(t, strings.ToLower(s.name), s.args...)
		findsNone(t, s.name+" ", s.args...)
		findsNone(t, "", s.args...)
		if len(s.args) == 0 {
			continue
		}
		findsNone(t, s.name)
		findsNone(t, s.name, s.args[1:]...)
		findsNone(t, s.name, "", "")
		for k := range s.args {
			other := slices.Clone(s.args)
			other[k] = strings.ToLower(other[k])
			if other[k] != s.args[k] {
				findsNone(t, s.name, other...)
			}
			other[k] = strings.ToUpper(other[k])
			if other[k] != s.args[k] {
				findsNone(t, s.name, other...)
			}
			other[k] = ""
			findsNone(t, s.name, other...)
		}
	}
}

// P602: of every name with every two operands just those are found that the sheet has.
func TestFindOnly(t *testing.T) {
	all := shapes()
	names := map[string]int{}
	words := map[string]int{}
	forms := map[string]byte{}
	for i, s := range all {
		if s.name == "" {
			continue
		}
		names[s.name]++
		for _, a := range s.args {
			words[a]++
		}
		forms[strings.Join(append([]string{s.name}, s.args...), " ")] = byte(i)
	}
	ask := func(name string, args ...string) {
		op, ok := forms[strings.Join(append([]string{name}, args...), " ")]
		if got, found := Find(name, args...); got != op || found != ok {
			t.Errorf("Find of %q %q: %x %v, not %x %v", name, args, got, found, op, ok)
		}
	}
	for name := range names {
		ask(name)
		for a := range words {
			ask(name, a)
			for b := range words {
				ask(name, a, b)
			}
		}
	}
}

// P602: names and operands that are none.
func TestFindNone(t *testing.T) {
	findsNone(t, "")
	findsNone(t, "", "")
	findsNone(t, "B")
	findsNone(t, "LD", "A", "B")
	findsNone(t, "R")
	findsNone(t, "J", "d16")
	findsNone(t, "JNE", "d16")
	findsNone(t, "mov", "A", "B")
	findsNone(t, "MOV", "a", "b")
	findsNone(t, "MOV", "A")
	findsNone(t, "MOV", "A", "B", "C")
	findsNone(t, "MOV", "M", "M")
	findsNone(t, "MOV", "A", "SP")
	findsNone(t, "MOV", "A", "d8")
	findsNone(t, "MOV", "A B")
	findsNone(t, "MVI", "d8", "B")
	findsNone(t, "MVI", "B", "d16")
	findsNone(t, "MVI", "B", "D8")
	findsNone(t, "LXI", "d16", "B")
	findsNone(t, "LXI", "C", "d16")
	findsNone(t, "LXI", "PSW", "d16")
	findsNone(t, "INR", "SP")
	findsNone(t, "INX", "A")
	findsNone(t, "DAD", "PSW")
	findsNone(t, "PUSH", "SP")
	findsNone(t, "POP", "SP")
	findsNone(t, "STAX", "H")
	findsNone(t, "LDAX", "SP")
	findsNone(t, "LDA", "d8")
	findsNone(t, "ADI", "d16")
	findsNone(t, "ADD", "d8")
	findsNone(t, "RST", "8")
	findsNone(t, "RST", "00")
	findsNone(t, "RST", "n")
	findsNone(t, "HLT", "M")
	findsNone(t, "JMP", "Z", "d16")
	findsNone(t, "RET", "Z")
}

// P602: the list of operands stays as it was, its spare room too.
func TestFindKeeps(t *testing.T) {
	l := []string{"A", "B", "C", "D"}
	if op, ok := Find("MOV", l[:2]...); op != 0x78 || !ok || !slices.Equal(l, []string{"A", "B", "C", "D"}) {
		t.Errorf("MOV A, B: %x %v, then %q", op, ok, l)
	}
}

// P603: each opcode with numbers that fit, and that do not.
func TestBytes(t *testing.T) {
	for i, s := range shapes() {
		op := byte(i)
		for _, n := range []uint16{0, 1, 2, 128, 255, 256, 257, 0x1234, 32768, 65535} {
			ins := Ins{op, n}
			switch {
			case s.name == "":
				puts(t, ins, nil, api.Undocumented)
			case s.size == 3:
				puts(t, ins, []byte{op, byte(n % 256), byte(n / 256)}, api.OK)
			case s.size == 2 && n < 256:
				puts(t, ins, []byte{op, byte(n)}, api.OK)
			case s.size == 1 && n == 0:
				puts(t, ins, []byte{op}, api.OK)
			default:
				puts(t, ins, nil, api.Range)
			}
		}
	}
}

// P603: no byte, too few, just enough, and more.
func TestRead(t *testing.T) {
	reads(t, nil, Ins{}, 0, api.Syntax)
	reads(t, []byte{}, Ins{}, 0, api.Syntax)
	more := []byte{0, 0xfe, 0xdc, 0x76, 0x08}
	for i, s := range shapes() {
		op := byte(i)
		more[0] = op
		want := Ins{op, 0}
		switch s.size {
		case 2:
			want.N = 0xfe
		case 3:
			want.N = 0xdcfe
		}
		for n := 1; n <= len(more); n++ {
			switch {
			case s.name == "":
				reads(t, more[:n], Ins{}, 0, api.Undocumented)
			case n < s.size:
				reads(t, more[:n:n], Ins{}, 0, api.Syntax)
				reads(t, more[:n], Ins{}, 0, api.Syntax)
			default:
				reads(t, more[:n], want, s.size, api.OK)
				reads(t, more[:n:n], want, s.size, api.OK)
			}
			if !slices.Equal(more, []byte{op, 0xfe, 0xdc, 0x76, 0x08}) {
				t.Fatalf("Read of %x wrote: % x", op, more)
			}
		}
	}
}

// P604: J.., JMP, C.., CALL have an address to go to; CMP, CPI, CMA, CMC and the like have none.
func TestJumps(t *testing.T) {
	names := strings.Fields("JNZ JZ JNC JC JPO JPE JP JM JMP CNZ CZ CNC CC CPO CPE CP CM CALL")
	for i, s := range shapes() {
		if want := slices.Contains(names, s.name); Jumps(byte(i)) != want {
			t.Errorf("Jumps of %x, %s: %v", i, s.name, !want)
		}
	}
}

// P604: behind JMP, RET, PCHL and HLT comes something else.
func TestEnds(t *testing.T) {
	names := strings.Fields("JMP RET PCHL HLT")
	for i, s := range shapes() {
		if want := slices.Contains(names, s.name); Ends(byte(i)) != want {
			t.Errorf("Ends of %x, %s: %v", i, s.name, !want)
		}
	}
}

// P604: the condition's number.
func TestCond(t *testing.T) {
	names := map[string]int{}
	for c, x := range strings.Fields("NZ Z NC C PO PE P M") {
		names["R"+x], names["J"+x], names["C"+x] = c, c, c
	}
	for i, s := range shapes() {
		want, ok := names[s.name]
		if !ok {
			want = -1
		}
		if got := Cond(byte(i)); got != want {
			t.Errorf("Cond of %x, %s: %d, not %d", i, s.name, got, want)
		}
	}
}

// P605: 244 opcodes are documented, each of a form of its own.
func TestDocumented(t *testing.T) {
	forms := map[string]int{}
	for i := range 256 {
		if op := byte(i); Size(op) > 0 {
			forms[Name(op)+" "+strings.Join(Args(op), ",")]++
		}
	}
	if len(forms) != 244 {
		t.Errorf("%d forms", len(forms))
	}
	for f, n := range forms {
		if n != 1 {
			t.Errorf("%s: of %d opcodes", f, n)
		}
	}
}

// P605: what was put is read, with bytes behind it or none.
func TestReadBack(t *testing.T) {
	for i := range 256 {
		for n := range 65536 {
			ins := Ins{byte(i), uint16(n)}
			b, k := Bytes(ins)
			if k != api.OK {
				if len(b) != 0 {
					t.Fatalf("%x: % x beside kind %d", ins, b, k)
				}
				break
			}
			got, size, k := Read(append(b, 0xff, 0xff))
			if got != ins || size != len(b) || k != api.OK {
				t.Fatalf("%x: read as %x, %d, kind %d", ins, got, size, k)
			}
		}
	}
}

// Rule 4: what is handed out is new memory, spare room too.
func TestNewMemory(t *testing.T) {
	for i, s := range shapes() {
		op := byte(i)
		a := Args(op)
		a = a[:cap(a)]
		for k := range a {
			a[k] = "spoilt"
		}
		b, _ := Bytes(Ins{op, 0})
		b = b[:cap(b)]
		for k := range b {
			b[k] = 0xaa
		}
		if !slices.Equal(Args(op), s.args) {
			t.Errorf("Args of %x: %q", op, Args(op))
		}
		if c, _ := Bytes(Ins{op, 0}); len(c) > 0 && c[0] != op {
			t.Errorf("Bytes of %x: % x", op, c)
		}
	}
}
