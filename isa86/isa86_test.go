package isa86

import (
	"bytes"
	"math"
	"slices"
	"testing"

	"pidgin/api"
)

// puts: an instruction is right, has these bytes, and they are read.
func puts(t *testing.T, i Ins, b ...byte) {
	t.Helper()
	if k := Right(i); k != api.OK {
		t.Errorf("Right of %v: kind %d", i, k)
	}
	if got, k := Bytes(i); !slices.Equal(got, b) || k != api.OK {
		t.Errorf("Bytes of %v: % x, kind %d, not % x", i, got, k, b)
	}
	if got := Size(i); got != len(b) {
		t.Errorf("Size of %v: %d, not %d", i, got, len(b))
	}
	reads(t, b, i, len(b), api.OK)
}

// refuses: an instruction is not right, by this kind.
func refuses(t *testing.T, i Ins, want api.Kind) {
	t.Helper()
	if k := Right(i); k != want {
		t.Errorf("Right of %v: kind %d, not %d", i, k, want)
	}
	if b, k := Bytes(i); len(b) != 0 || k != want {
		t.Errorf("Bytes of %v: % x, kind %d, not %d", i, b, k, want)
	}
	if got := Size(i); got != 0 {
		t.Errorf("Size of %v: %d", i, got)
	}
}

// reads: the instruction at the begin of the bytes and its size, or its error.
func reads(t *testing.T, b []byte, i Ins, size int, k api.Kind) {
	t.Helper()
	if got, n, kind := Read(b); got != i || n != size || kind != k {
		t.Errorf("Read of % x: %v, %d, kind %d, not %v, %d, kind %d", b, got, n, kind, i, size, k)
	}
}

// The chapter's examples.
func TestExamples(t *testing.T) {
	puts(t, Ins{1, 1, 17, 0}, 0x8a, 0x07)
	puts(t, Ins{44, 20, 0, 0xfffe}, 0x74, 0xfe)
}

// P801: bytes as a manual of the 8086 has them.
func TestManual(t *testing.T) {
	puts(t, Ins{1, 2, 5, 0}, 0x88, 0xe1)             // MOV CL,AH
	puts(t, Ins{1, 17, 6, 0}, 0x88, 0x2f)            // MOV [BX],CH
	puts(t, Ins{1, 17, 1, 0}, 0x88, 0x07)            // MOV [BX],AL
	puts(t, Ins{1, 1, 18, 0}, 0x8a, 0x04)            // MOV AL,[SI]
	puts(t, Ins{1, 18, 1, 0}, 0x88, 0x04)            // MOV [SI],AL
	puts(t, Ins{1, 1, 19, 0x1234}, 0xa0, 0x34, 0x12) // MOV AL,[1234]
	puts(t, Ins{1, 19, 1, 0x1234}, 0xa2, 0x34, 0x12)
	puts(t, Ins{1, 12, 19, 0x1234}, 0x8b, 0x1e, 0x34, 0x12) // MOV BX,[1234]
	puts(t, Ins{1, 19, 12, 0x1234}, 0x89, 0x1e, 0x34, 0x12)
	puts(t, Ins{1, 13, 12, 0}, 0x89, 0xdc)            // MOV SP,BX
	puts(t, Ins{1, 4, 20, 0x12}, 0xb3, 0x12)          // MOV BL,12
	puts(t, Ins{1, 13, 20, 0x1234}, 0xbc, 0x34, 0x12) // MOV SP,1234
	puts(t, Ins{1, 17, 20, 0x12}, 0xc6, 0x07, 0x12)   // MOV BYTE [BX],12
	puts(t, Ins{2, 1, 8, 0}, 0x00, 0xf8)              // ADD AL,BH
	puts(t, Ins{2, 12, 10, 0}, 0x01, 0xcb)            // ADD BX,CX
	puts(t, Ins{5, 1, 17, 0}, 0x1a, 0x07)             // SBB AL,[BX]
	puts(t, Ins{9, 1, 20, 0xff}, 0x3c, 0xff)          // CMP AL,FF
	puts(t, Ins{6, 2, 20, 0x0f}, 0x80, 0xe1, 0x0f)    // AND CL,0F
	puts(t, Ins{8, 1, 1, 0}, 0x30, 0xc0)              // XOR AL,AL
	puts(t, Ins{10, 17, 0, 0}, 0xfe, 0x07)            // INC BYTE [BX]
	puts(t, Ins{11, 17, 0, 0}, 0xfe, 0x0f)            // DEC BYTE [BX]
	puts(t, Ins{10, 12, 0, 0}, 0x43)                  // INC BX
	puts(t, Ins{11, 3, 0, 0}, 0xfe, 0xca)             // DEC DL
	puts(t, Ins{12, 1, 0, 0}, 0xd0, 0xc0)             // ROL AL,1
	puts(t, Ins{15, 9, 0, 0}, 0xd1, 0xd8)             // RCR AX,1
	puts(t, Ins{16, 1, 0, 0}, 0xf6, 0xd0)             // NOT AL
	puts(t, Ins{17, 12, 11, 0}, 0x87, 0xd3)           // XCHG BX,DX
	puts(t, Ins{17, 1, 5, 0}, 0x86, 0xe0)             // XCHG AL,AH
	puts(t, Ins{18, 9, 0, 0}, 0x50)                   // PUSH AX
	puts(t, Ins{19, 12, 0, 0}, 0x5b)                  // POP BX
	puts(t, Ins{20, 0, 0, 0}, 0x9f)                   // LAHF
	puts(t, Ins{22, 0, 0, 0}, 0x27)                   // DAA
	puts(t, Ins{28, 0, 0, 0}, 0xf4)                   // HLT
	puts(t, Ins{29, 0, 0, 0}, 0x90)                   // NOP
	puts(t, Ins{30, 1, 20, 7}, 0xe4, 0x07)            // IN AL,7
	puts(t, Ins{31, 20, 1, 7}, 0xe6, 0x07)            // OUT 7,AL
	puts(t, Ins{32, 20, 0, 0xfffd}, 0xe9, 0xfd, 0xff) // JMP to itself
	puts(t, Ins{33, 20, 0, 0xfffe}, 0xeb, 0xfe)       // JMP SHORT to itself
	puts(t, Ins{34, 20, 0, 0x0100}, 0xe8, 0x00, 0x01) // CALL
	puts(t, Ins{35, 0, 0, 0}, 0xc3)                   // RET
	puts(t, Ins{42, 20, 0, 127}, 0x72, 0x7f)          // JB
	puts(t, Ins{51, 20, 0, 0xff80}, 0x7b, 0x80)       // JNP
}

// P801: each row of the chapter's table, with each register and each edge of its number.
func TestRows(t *testing.T) {
	for _, r := range table() {
		for _, v := range edges() {
			if r.takes(v) {
				puts(t, r.ins(v), r.bytes(v)...)
			} else {
				refuses(t, r.ins(v), api.Range)
			}
		}
	}
}

// P801: how many rows there are, and of which operations.
func TestCount(t *testing.T) {
	got := 0
	for op := range 60 {
		for d := range 22 {
			for s := range 22 {
				if Right(Ins{op, d, s, 0}) == api.OK {
					got++
				}
			}
		}
	}
	moves := 64 + 8 + 8 + 2 + 8 + 8 + 2 + 14 + 64 + 1
	sums := 8 * (64 + 64 + 8 + 8)
	if want := moves + sums + 2*17 + 4*16 + 8 + 64 + 49 + 16 + 10 + 2 + 3 + 1 + 8; got != want {
		t.Errorf("%d forms, not %d", got, want)
	}
}

// key: a row's operation and operands.
type key struct{ op, d, s int }

// P801: all that is no row is a fault, whatever its number.
func TestFaults(t *testing.T) {
	rows := map[key]row{}
	for _, r := range table() {
		rows[key{r.op, r.d, r.s}] = r
	}
	operands := append(upTo(-2, 24), -256, 256+1, 256+9, 65536+1, 1<<32+1, math.MaxInt, math.MinInt, math.MinInt+1)
	operations := append(upTo(-3, 70), -254, 256+1, 256+2, 65536+1, 1<<32+20, math.MaxInt, math.MinInt)
	for _, op := range operations {
		for _, d := range operands {
			for _, s := range operands {
				if _, ok := rows[key{op, d, s}]; ok {
					continue
				}
				refuses(t, Ins{op, d, s, 0}, api.Fault)
				refuses(t, Ins{op, d, s, 1}, api.Fault)
				refuses(t, Ins{op, d, s, 65535}, api.Fault)
			}
		}
	}
}

// P801: what the document names that there is none of.
func TestNone(t *testing.T) {
	for _, i := range []Ins{
		{1, 9, 19, 5}, {1, 19, 9, 5}, // MOV of AX with [N]
		{1, 2, 18, 0}, {1, 18, 2, 0}, {1, 2, 19, 5}, {1, 19, 8, 5}, // another register than AL there
		{1, 12, 17, 0}, {1, 17, 12, 0}, {1, 18, 20, 1}, {1, 19, 20, 1}, {1, 17, 17, 0}, {1, 20, 1, 0},
		{17, 9, 10, 0}, {17, 10, 9, 0}, {17, 9, 9, 0}, {17, 1, 17, 0}, // XCHG with AX, and memory
		{2, 17, 1, 0}, {2, 12, 20, 1}, {2, 12, 17, 0}, {2, 1, 18, 0}, {2, 1, 19, 1}, {9, 17, 20, 1},
		{2, 1, 9, 0}, {2, 9, 1, 0}, {1, 1, 9, 0}, {1, 9, 1, 0}, {17, 1, 12, 0}, // widths that differ
		{10, 18, 0, 0}, {11, 19, 0, 1}, {12, 17, 0, 0}, {16, 9, 0, 0}, {16, 17, 0, 0}, {18, 1, 0, 0}, {19, 20, 0, 1},
		{2, 1, 0, 0}, {10, 0, 0, 0}, {32, 0, 0, 0}, {30, 1, 0, 0}, {30, 0, 20, 0}, {1, 1, 0, 0}, // one too few
		{10, 1, 1, 0}, {16, 1, 20, 0}, {20, 1, 0, 0}, {29, 0, 1, 0}, {35, 20, 0, 0}, {32, 20, 1, 0}, {44, 20, 20, 0}, // one too many
		{30, 20, 1, 7}, {31, 1, 20, 7}, {10, 0, 1, 0}, {32, 0, 20, 0}, {2, 20, 1, 7}, {30, 9, 20, 7}, {31, 20, 2, 7}, // the other way round
		{0, 0, 0, 0}, {-1, 0, 0, 0}, {36, 20, 0, 0}, {41, 20, 0, 0}, {46, 20, 0, 0}, {47, 20, 0, 0}, {52, 20, 0, 0}, {1000, 20, 0, 0},
	} {
		refuses(t, i, api.Fault)
	}
}

// P801: a fault is told ahead of a number that does not fit.
func TestFaultFirst(t *testing.T) {
	refuses(t, Ins{12, 17, 0, 9}, api.Fault)
	refuses(t, Ins{12, 1, 0, 9}, api.Range)
	refuses(t, Ins{46, 20, 0, 300}, api.Fault)
	refuses(t, Ins{45, 20, 0, 300}, api.Range)
}

// P801: of each number, whether it fits, and where it stands.
func TestNumbers(t *testing.T) {
	for v := range 1 << 16 {
		for _, r := range []row{
			{1, 2, 20, []byte{0xb1}, n}, {1, 10, 20, []byte{0xb9}, far}, {33, 20, 0, []byte{0xeb}, near},
			{32, 20, 0, []byte{0xe9}, far}, {50, 20, 0, []byte{0x7a}, near}, {35, 0, 0, []byte{0xc3}, nothing},
		} {
			if r.takes(uint16(v)) {
				puts(t, r.ins(uint16(v)), r.bytes(uint16(v))...)
			} else {
				refuses(t, r.ins(uint16(v)), api.Range)
			}
		}
	}
}

// P803: which operations jump, whatever else the instruction has.
func TestJumps(t *testing.T) {
	jumps := append(conditions(), 32, 33, 34)
	for _, op := range append(upTo(-3, 300), math.MaxInt, math.MinInt, 256+32, 65536+42, 1<<32+32) {
		for _, i := range []Ins{{op, 20, 0, 0}, {op, 20, 0, 1000}, {op, 0, 0, 0}, {op, 1, 2, 3}, {op, -1, 99, 65535}} {
			if got := Jumps(i); got != slices.Contains(jumps, op) {
				t.Errorf("Jumps of %v: %v", i, got)
			}
		}
	}
}

// asked: what Read is to answer, found by a look through all rows.
func asked(rows []row, b []byte) (Ins, int, api.Kind) {
	if len(b) == 0 {
		return Ins{}, 0, api.Syntax
	}
	begun := false
	for _, r := range rows {
		if len(b) < len(r.head) {
			begun = begun || bytes.HasPrefix(r.head, b)
			continue
		}
		if !bytes.HasPrefix(b, r.head) {
			continue
		}
		if size := len(r.bytes(0)); len(b) >= size {
			return r.ins(r.valueOf(b[len(r.head):size])), size, api.OK
		}
		begun = true
	}
	if begun {
		return Ins{}, 0, api.Syntax
	}
	return Ins{}, 0, api.Fault
}

// valueOf: the number that stands behind a row's head.
func (r row) valueOf(b []byte) uint16 {
	switch r.tail {
	case n:
		return uint16(b[0])
	case near:
		if b[0] >= 128 {
			return 0xff00 + uint16(b[0])
		}
		return uint16(b[0])
	case far:
		return uint16(b[0]) + 256*uint16(b[1])
	}
	return 0
}

// P802: no byte, each first byte, and each first byte with each second, with fewer and with more behind.
func TestReadEach(t *testing.T) {
	rows := table()
	first := make([][]row, 256)
	for _, r := range rows {
		first[r.head[0]] = append(first[r.head[0]], r)
	}
	reads(t, nil, Ins{}, 0, api.Syntax)
	reads(t, []byte{}, Ins{}, 0, api.Syntax)
	same := func(b ...byte) {
		i, size, k := asked(first[b[0]], b)
		reads(t, b, i, size, k)
	}
	for x := range 256 {
		same(byte(x))
		for y := range 256 {
			same(byte(x), byte(y))
			for _, z := range []byte{0, 1, 0x7f, 0x80, 0xff, byte(x), byte(y)} {
				same(byte(x), byte(y), z)
				same(byte(x), byte(y), z, 0x81)
				same(byte(x), byte(y), z, z, 0x90, 0xf4)
			}
		}
	}
}

// P802: some bytes that begin nothing, some that could begin something.
func TestReadNone(t *testing.T) {
	for _, b := range [][]byte{
		{0x03}, {0x05}, {0x06}, {0x07}, {0x0f}, {0x26}, {0x2f}, {0x3f}, {0x60}, {0x70}, {0x71}, {0x76}, {0x77}, {0x7c}, {0x7f},
		{0x81}, {0x82}, {0x83}, {0x8c}, {0x8d}, {0x8e}, {0x8f}, {0x91}, {0xa1}, {0xa3}, {0xc7}, {0xcd}, {0xe5}, {0xe7}, {0xea}, {0xf0}, {0xf7}, {0xff},
		{0x80, 0xc0}, {0x80, 0xc0, 5}, {0x80, 0x07, 5}, {0x88, 0x06, 0, 0}, {0x88, 0x0c}, {0x8a, 0x0c}, {0x8a, 0xc0}, {0x8b, 0xc0}, {0x8b, 0x06, 0, 0}, {0x89, 0x06, 0, 0}, {0x89, 0x07},
		{0x87, 0xc1}, {0x87, 0xc8}, {0x86, 0x07}, {0xc6, 0xc0, 1}, {0xc6, 0x0f, 1}, {0xd0, 0xe0}, {0xd1, 0xf0}, {0xd0, 0x07}, {0xf6, 0xc0}, {0xf6, 0x17}, {0xfe, 0xd0}, {0xfe, 0x17}, {0xfe, 0x06},
		{0x00, 0x07}, {0x02, 0x04}, {0x02, 0xc0}, {0x01, 0x07},
	} {
		reads(t, b, Ins{}, 0, api.Fault)
		reads(t, append(b, 0, 0, 0, 0), Ins{}, 0, api.Fault)
	}
	for _, b := range [][]byte{
		{0x00}, {0x04}, {0x3a}, {0x72}, {0x80}, {0x80, 0xc1}, {0x88}, {0x8b, 0x0e}, {0x8b, 0x0e, 0}, {0xa0}, {0xa0, 0}, {0xb0}, {0xb8, 1}, {0xc6}, {0xc6, 7}, {0xd0}, {0xe4}, {0xe8, 0}, {0xe9}, {0xeb}, {0xf6}, {0xfe},
	} {
		reads(t, b, Ins{}, 0, api.Syntax)
	}
}

// P804: what was put is read, whatever is behind it; with fewer bytes it is none yet.
func TestPutIsRead(t *testing.T) {
	for _, r := range table() {
		for _, v := range edges() {
			if !r.takes(v) {
				continue
			}
			b, _ := Bytes(r.ins(v))
			for _, behind := range [][]byte{nil, {0}, {0x90}, {0xff, 0xff, 0xff}, b, bytes.Repeat([]byte{0x8a}, 300)} {
				reads(t, append(slices.Clone(b), behind...), r.ins(v), len(b), api.OK)
			}
			for short := range b {
				reads(t, b[:short], Ins{}, 0, api.Syntax)
			}
		}
	}
}

// P804: no instruction's bytes begin another's: all heads differ, and none begins another.
func TestNoneBeginsAnother(t *testing.T) {
	heads := map[string]Ins{}
	for op := range 60 {
		for d := range 22 {
			for s := range 22 {
				i := Ins{op, d, s, 0}
				b, k := Bytes(i)
				if k != api.OK {
					continue
				}
				with1, _ := Bytes(Ins{op, d, s, 1})
				head := string(b)
				for k := range with1 {
					if with1[k] != b[k] {
						head = string(b[:k])
						break
					}
				}
				if other, ok := heads[head]; ok {
					t.Errorf("%v and %v: % x", i, other, head)
				}
				heads[head] = i
			}
		}
	}
	for head, i := range heads {
		for k := 1; k < len(head); k++ {
			if other, ok := heads[head[:k]]; ok {
				t.Errorf("%v begins %v: % x", other, i, head)
			}
		}
	}
}

// Rule 4: bytes handed in stay as they are, those handed out are new memory.
func TestMemory(t *testing.T) {
	room := []byte{0xb8, 1, 2, 3, 4, 5, 6, 7}
	reads(t, room[:3], Ins{1, 9, 20, 0x0201}, 3, api.OK)
	reads(t, room[:2], Ins{}, 0, api.Syntax)
	if !slices.Equal(room, []byte{0xb8, 1, 2, 3, 4, 5, 6, 7}) {
		t.Errorf("Read wrote: % x", room)
	}
	for _, r := range table() {
		a, _ := Bytes(r.ins(0))
		full := a[:cap(a)]
		for k := range full {
			full[k] = 0x55
		}
		b, _ := Bytes(r.ins(0))
		if !slices.Equal(b, r.bytes(0)) {
			t.Errorf("Bytes of %v, once written on: % x", r.ins(0), b)
		}
	}
}
