package isa86

import "slices"

// What stands behind a row's head, by the chapter.
const (
	nothing = "" // no number
	n       = "n"
	far     = "nn"
	near    = "near" // a byte by its sign
)

// row: an instruction but for its number, by the chapter's table.
type row struct {
	op, d, s int
	head     []byte
	tail     string
}

// Ways to say which operands.
func upTo(from, to int) []int {
	var l []int
	for i := from; i <= to; i++ {
		l = append(l, i)
	}
	return l
}

func r8() []int        { return upTo(1, 8) }
func r16() []int       { return upTo(9, 16) }
func just(i int) []int { return []int{i} }

// m: the chapter's m(x, y).
func m(x, y int) int { return 0xc0 + 8*x + y }

// sheet: collects the rows.
type sheet struct{ rows []row }

// add: rows of each of these operands; bytes tells the head, by the registers' numbers.
func (h *sheet) add(op int, ds, ss []int, tail string, bytes func(d, s int) []int) {
	for _, d := range ds {
		for _, s := range ss {
			var head []byte
			for _, b := range bytes(code(d), code(s)) {
				head = append(head, byte(b))
			}
			h.rows = append(h.rows, row{op, d, s, head, tail})
		}
	}
}

// code: a register's number.
func code(operand int) int {
	if slices.Contains(r16(), operand) {
		return operand - 9
	}
	return operand - 1
}

// is: a head of bytes that hang on no operand.
func is(b ...int) func(d, s int) []int { return func(d, s int) []int { return b } }

// table: all rows of the chapter's table, written out.
func table() []row {
	h := &sheet{}
	h.moves()
	for k := range 8 {
		h.sums(k)
	}
	h.ones()
	h.others()
	return h.rows
}

func (h *sheet) moves() {
	h.add(1, r8(), r8(), nothing, func(d, s int) []int { return []int{0x88, m(s, d)} })
	h.add(1, r8(), just(17), nothing, func(d, s int) []int { return []int{0x8a, 8*d + 7} })
	h.add(1, just(17), r8(), nothing, func(d, s int) []int { return []int{0x88, 8*s + 7} })
	h.add(1, just(1), just(18), nothing, is(0x8a, 4))
	h.add(1, just(18), just(1), nothing, is(0x88, 4))
	h.add(1, r8(), just(20), n, func(d, s int) []int { return []int{0xb0 + d} })
	h.add(1, r16(), just(20), far, func(d, s int) []int { return []int{0xb8 + d} })
	h.add(1, just(1), just(19), far, is(0xa0))
	h.add(1, just(19), just(1), far, is(0xa2))
	h.add(1, upTo(10, 16), just(19), far, func(d, s int) []int { return []int{0x8b, 8*d + 6} })
	h.add(1, just(19), upTo(10, 16), far, func(d, s int) []int { return []int{0x89, 8*s + 6} })
	h.add(1, r16(), r16(), nothing, func(d, s int) []int { return []int{0x89, m(s, d)} })
	h.add(1, just(17), just(20), n, is(0xc6, 7))
}

func (h *sheet) sums(k int) {
	h.add(k+2, r8(), r8(), nothing, func(d, s int) []int { return []int{8 * k, m(s, d)} })
	h.add(k+2, r16(), r16(), nothing, func(d, s int) []int { return []int{8*k + 1, m(s, d)} })
	h.add(k+2, r8(), just(17), nothing, func(d, s int) []int { return []int{8*k + 2, 8*d + 7} })
	h.add(k+2, just(1), just(20), n, is(8*k+4))
	h.add(k+2, upTo(2, 8), just(20), n, func(d, s int) []int { return []int{0x80, m(k, d)} })
}

func (h *sheet) ones() {
	for k := range 2 {
		h.add(k+10, r8(), just(0), nothing, func(d, s int) []int { return []int{0xfe, m(k, d)} })
		h.add(k+10, just(17), just(0), nothing, is(0xfe, 8*k+7))
	}
	h.add(10, r16(), just(0), nothing, func(d, s int) []int { return []int{0x40 + d} })
	h.add(11, r16(), just(0), nothing, func(d, s int) []int { return []int{0x48 + d} })
	for k := range 4 {
		h.add(k+12, r8(), just(0), nothing, func(d, s int) []int { return []int{0xd0, m(k, d)} })
		h.add(k+12, r16(), just(0), nothing, func(d, s int) []int { return []int{0xd1, m(k, d)} })
	}
	h.add(16, r8(), just(0), nothing, func(d, s int) []int { return []int{0xf6, m(2, d)} })
	h.add(18, r16(), just(0), nothing, func(d, s int) []int { return []int{0x50 + d} })
	h.add(19, r16(), just(0), nothing, func(d, s int) []int { return []int{0x58 + d} })
}

func (h *sheet) others() {
	h.add(17, r8(), r8(), nothing, func(d, s int) []int { return []int{0x86, m(s, d)} })
	h.add(17, upTo(10, 16), upTo(10, 16), nothing, func(d, s int) []int { return []int{0x87, m(s, d)} })
	for k, b := range []int{0x9f, 0x9e, 0x27, 0xf5, 0xf9, 0xf8, 0xfb, 0xfa, 0xf4, 0x90} {
		h.add(20+k, just(0), just(0), nothing, is(b))
	}
	h.add(30, just(1), just(20), n, is(0xe4))
	h.add(31, just(20), just(1), n, is(0xe6))
	h.add(32, just(20), just(0), far, is(0xe9))
	h.add(33, just(20), just(0), near, is(0xeb))
	h.add(34, just(20), just(0), far, is(0xe8))
	h.add(35, just(0), just(0), nothing, is(0xc3))
	for _, op := range conditions() {
		h.add(op, just(20), just(0), near, is(0x70+op-40))
	}
}

// conditions: the operations that jump by one.
func conditions() []int { return []int{42, 43, 44, 45, 48, 49, 50, 51} }

// takes: whether such a number may stand there.
func (r row) takes(v uint16) bool {
	switch r.tail {
	case nothing:
		return v == 0
	case n:
		return v < 256
	case near:
		return v < 128 || v >= 0x10000-128
	}
	return true
}

// bytes: the row's, with this number.
func (r row) bytes(v uint16) []byte {
	b := slices.Clone(r.head)
	switch r.tail {
	case n, near:
		return append(b, byte(v%256))
	case far:
		return append(b, byte(v%256), byte(v/256))
	}
	return b
}

// ins: the row's instruction, with this number.
func (r row) ins(v uint16) Ins { return Ins{Op: r.op, D: r.d, S: r.s, N: v} }

// edges: the numbers at which something ends.
func edges() []uint16 {
	return []uint16{0, 1, 127, 128, 255, 256, 32767, 32768, 65407, 65408, 65535}
}
