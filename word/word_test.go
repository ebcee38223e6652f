package word

import (
	"math"
	"testing"
)

// eachByte: every byte there is.
func eachByte(do func(a byte)) {
	for n := range 256 {
		do(byte(n))
	}
}

// eachPair: every two bytes, without a carry and with one.
func eachPair(do func(a, b byte, c bool)) {
	eachByte(func(a byte) {
		eachByte(func(b byte) {
			do(a, b, false)
			do(a, b, true)
		})
	})
}

// eachFlags: every way in which five flags may stand.
func eachFlags(do func(f Flags)) {
	for n := range 32 {
		do(Flags{n&16 != 0, n&8 != 0, n&4 != 0, n&2 != 0, n&1 != 0})
	}
}

// evenOnes counts one by one, apart from what the package does.
func evenOnes(b byte) bool {
	even := true
	for ; b != 0; b /= 2 {
		if b%2 == 1 {
			even = !even
		}
	}
	return even
}

// wantFlags: a result's own flags, with the A and the C that are looked for.
func wantFlags(r byte, a, c bool) Flags {
	return Flags{S: r >= 128, Z: r == 0, A: a, P: evenOnes(r), C: c}
}

func digit(c bool) int {
	if c {
		return 1
	}
	return 0
}

// check: what a call answered; the texts and numbers tell which.
func check(t *testing.T, what string, from []any, r byte, f Flags, wantR byte, wantF Flags) {
	t.Helper()
	if r != wantR || f != wantF {
		t.Fatalf("%s %v: %#x %v, not %#x %v", what, from, r, f, wantR, wantF)
	}
}

// P101: each flag has its place, and the second bit is always there.
func TestPsw(t *testing.T) {
	rows := []struct {
		f Flags
		b byte
	}{
		{Flags{}, 0x02},
		{Flags{S: true}, 0x82},
		{Flags{Z: true}, 0x42},
		{Flags{A: true}, 0x12},
		{Flags{P: true}, 0x06},
		{Flags{C: true}, 0x03},
		{Flags{S: true, C: true}, 0x83},
		{Flags{true, true, true, true, true}, 0xd7},
	}
	for _, r := range rows {
		if b := Psw(r.f); b != r.b {
			t.Errorf("Psw of %v: %#x, not %#x", r.f, b, r.b)
		}
	}
	eachFlags(func(f Flags) {
		want := 2 + 0x80*digit(f.S) + 0x40*digit(f.Z) + 0x10*digit(f.A) + 4*digit(f.P) + digit(f.C)
		if b := Psw(f); int(b) != want {
			t.Errorf("Psw of %v: %#x, not %#x", f, b, want)
		}
		if g := Of(Psw(f)); g != f {
			t.Errorf("Of of Psw of %v: %v", f, g)
		}
	})
}

// P101: any byte has flags, whatever stands at the places that are none's.
func TestOf(t *testing.T) {
	rows := []struct {
		b byte
		f Flags
	}{
		{0x00, Flags{}},
		{0x80, Flags{S: true}},
		{0x40, Flags{Z: true}},
		{0x10, Flags{A: true}},
		{0x04, Flags{P: true}},
		{0x01, Flags{C: true}},
		{0x2a, Flags{}},
		{0xff, Flags{true, true, true, true, true}},
	}
	for _, r := range rows {
		if f := Of(r.b); f != r.f {
			t.Errorf("Of %#x: %v, not %v", r.b, f, r.f)
		}
	}
	eachByte(func(b byte) {
		f := Of(b)
		if want := (Flags{b&0x80 > 0, b&0x40 > 0, b&0x10 > 0, b&4 > 0, b&1 > 0}); f != want {
			t.Errorf("Of %#x: %v, not %v", b, f, want)
		}
		if p := Psw(f); p != b&0xd7|2 {
			t.Errorf("Psw of Of %#x: %#x", b, p)
		}
	})
}

// P101: parity of all bytes.
func TestParity(t *testing.T) {
	if !Parity(0) || Parity(1) || !Parity(3) || Parity(0x80) || !Parity(0xff) || Parity(0xfe) {
		t.Error("Parity of 0, 1, 3, 80, FF, FE")
	}
	eachByte(func(b byte) {
		if Parity(b) != evenOnes(b) {
			t.Errorf("Parity of %#x: %v", b, Parity(b))
		}
	})
}

// P102: known sums, the chapter's example ahead.
func TestAddRows(t *testing.T) {
	rows := []struct {
		a, b byte
		c    bool
		r    byte
		f    Flags
	}{
		{0x9a, 0x66, false, 0x00, Flags{Z: true, A: true, P: true, C: true}},
		{0x00, 0x00, false, 0x00, Flags{Z: true, P: true}},
		{0x00, 0x00, true, 0x01, Flags{}},
		{0x0f, 0x00, true, 0x10, Flags{A: true}},
		{0x0f, 0x00, false, 0x0f, Flags{P: true}},
		{0x7f, 0x01, false, 0x80, Flags{S: true, A: true}},
		{0xff, 0x00, true, 0x00, Flags{Z: true, A: true, P: true, C: true}},
		{0xff, 0xff, true, 0xff, Flags{S: true, A: true, P: true, C: true}},
		{0xf0, 0x10, false, 0x00, Flags{Z: true, P: true, C: true}},
	}
	for _, x := range rows {
		r, f := Add(x.a, x.b, x.c)
		check(t, "Add", []any{x.a, x.b, x.c}, r, f, x.r, x.f)
	}
}

// P102: known differences; A is set where the lowest four bits borrow nothing.
func TestSubRows(t *testing.T) {
	rows := []struct {
		a, b byte
		c    bool
		r    byte
		f    Flags
	}{
		{0x3e, 0x3e, false, 0x00, Flags{Z: true, A: true, P: true}},
		{0x00, 0x01, true, 0xfe, Flags{S: true, C: true}},
		{0x00, 0x00, true, 0xff, Flags{S: true, P: true, C: true}},
		{0x00, 0x00, false, 0x00, Flags{Z: true, A: true, P: true}},
		{0x10, 0x01, false, 0x0f, Flags{P: true}},
		{0x1f, 0x20, false, 0xff, Flags{S: true, A: true, P: true, C: true}},
		{0x80, 0x7f, true, 0x00, Flags{Z: true, P: true}},
		{0x00, 0xff, true, 0x00, Flags{Z: true, P: true, C: true}},
	}
	for _, x := range rows {
		r, f := Sub(x.a, x.b, x.c)
		check(t, "Sub", []any{x.a, x.b, x.c}, r, f, x.r, x.f)
	}
}

// P102: all sums and differences there are.
func TestAddSubAll(t *testing.T) {
	eachPair(func(a, b byte, c bool) {
		whole := int(a) + int(b) + digit(c)
		half := int(a%16) + int(b%16) + digit(c)
		r, f := Add(a, b, c)
		check(t, "Add", []any{a, b, c}, r, f, byte(whole%256), wantFlags(byte(whole%256), half > 15, whole > 255))
		whole = int(a) - int(b) - digit(c)
		half = int(a%16) - int(b%16) - digit(c)
		r, f = Sub(a, b, c)
		check(t, "Sub", []any{a, b, c}, r, f, byte((whole+256)%256), wantFlags(byte((whole+256)%256), half >= 0, whole < 0))
	})
}

// P103: And's A comes from bit 3 of either; Or and Xor have none, and none of the three carries.
func TestBits(t *testing.T) {
	r, f := And(0x0c, 0x06)
	check(t, "And", []any{0x0c, 0x06}, r, f, 0x04, Flags{A: true})
	r, f = And(0xf7, 0xf7)
	check(t, "And", []any{0xf7, 0xf7}, r, f, 0xf7, Flags{S: true})
	r, f = Or(0x0f, 0x80)
	check(t, "Or", []any{0x0f, 0x80}, r, f, 0x8f, Flags{S: true})
	r, f = Xor(0xff, 0xff)
	check(t, "Xor", []any{0xff, 0xff}, r, f, 0x00, Flags{Z: true, P: true})
	eachPair(func(a, b byte, _ bool) {
		var and, or, xor byte
		for bit := byte(128); bit > 0; bit /= 2 {
			x, y := a/bit%2 == 1, b/bit%2 == 1
			and += bit * byte(digit(x && y))
			or += bit * byte(digit(x || y))
			xor += bit * byte(digit(x != y))
		}
		third := a/8%2+b/8%2 > 0
		r, f := And(a, b)
		check(t, "And", []any{a, b}, r, f, and, wantFlags(and, third, false))
		r, f = Or(a, b)
		check(t, "Or", []any{a, b}, r, f, or, wantFlags(or, false, false))
		r, f = Xor(a, b)
		check(t, "Xor", []any{a, b}, r, f, xor, wantFlags(xor, false, false))
	})
}

// P104: of all flags that come in C alone stays, and none counts.
func TestIncDec(t *testing.T) {
	r, f := Inc(0xff, Flags{})
	check(t, "Inc", []any{0xff}, r, f, 0x00, Flags{Z: true, A: true, P: true})
	r, f = Dec(0x00, Flags{})
	check(t, "Dec", []any{0x00}, r, f, 0xff, Flags{S: true, P: true})
	r, f = Dec(0x01, Flags{C: true})
	check(t, "Dec", []any{0x01}, r, f, 0x00, Flags{Z: true, A: true, P: true, C: true})
	eachByte(func(a byte) {
		eachFlags(func(was Flags) {
			r, f := Inc(a, was)
			check(t, "Inc", []any{a, was}, r, f, a+1, wantFlags(a+1, a%16 == 15, was.C))
			r, f = Dec(a, was)
			check(t, "Dec", []any{a, was}, r, f, a-1, wantFlags(a-1, a%16 != 0, was.C))
		})
	})
}

// P105: known adjustments, the chapter's example ahead: each of the two corrections, by each of its causes.
func TestDaaRows(t *testing.T) {
	rows := []struct {
		a byte
		f Flags
		r byte
		g Flags
	}{
		{0x9a, Flags{}, 0x00, Flags{Z: true, A: true, P: true, C: true}},
		{0x9b, Flags{}, 0x01, Flags{A: true, C: true}},
		{0x99, Flags{}, 0x99, Flags{S: true, P: true}},
		{0x00, Flags{S: true, P: true}, 0x00, Flags{Z: true, P: true}},
		{0x0a, Flags{}, 0x10, Flags{A: true}},
		{0x03, Flags{A: true}, 0x09, Flags{P: true}},
		{0x0f, Flags{A: true}, 0x15, Flags{A: true}},
		{0xa0, Flags{}, 0x00, Flags{Z: true, P: true, C: true}},
		{0x10, Flags{C: true}, 0x70, Flags{C: true}},
		{0x99, Flags{A: true}, 0x9f, Flags{S: true, P: true}},
		{0xff, Flags{}, 0x65, Flags{A: true, P: true, C: true}},
		{0xfa, Flags{}, 0x60, Flags{A: true, P: true, C: true}},
		{0x05, Flags{A: true, C: true}, 0x6b, Flags{C: true}},
	}
	for _, x := range rows {
		r, g := Daa(x.a, x.f)
		check(t, "Daa", []any{x.a, x.f}, r, g, x.r, x.g)
	}
}

// P105: all bytes with all flags, by the sum of one correction that is told at once.
func TestDaaAll(t *testing.T) {
	eachByte(func(a byte) {
		eachFlags(func(f Flags) {
			more := 0
			if a%16 > 9 || f.A {
				more = 6
			}
			aux := int(a%16)+more > 15
			carry := f.C || int(a)+more >= 0xa0
			if carry {
				more += 0x60
			}
			want := byte(int(a) + more)
			r, g := Daa(a, f)
			check(t, "Daa", []any{a, f}, r, g, want, wantFlags(want, aux, carry))
		})
	})
}

// P105: sums of numbers of two digits come out in tens.
func TestDaaTens(t *testing.T) {
	tens := func(n int) byte { return byte(n/10*16 + n%10) }
	for a := range 100 {
		for b := range 100 {
			for c := range 2 {
				r, f := Daa(Add(tens(a), tens(b), c == 1))
				n := a + b + c
				if r != tens(n%100) || f.C != (n > 99) {
					t.Fatalf("%d and %d and %d: %#x %v", a, b, c, r, f)
				}
			}
		}
	}
}

// P106: the four kinds, with what comes in and what goes out.
func TestTurn(t *testing.T) {
	rows := []struct {
		kind int
		a    byte
		c    bool
		r    byte
		d    bool
	}{
		{0, 0x81, false, 0x03, true},
		{0, 0x41, true, 0x82, false},
		{1, 0x81, false, 0xc0, true},
		{1, 0x82, true, 0x41, false},
		{2, 0x81, true, 0x03, true},
		{2, 0x81, false, 0x02, true},
		{2, 0x01, true, 0x03, false},
		{3, 0x81, true, 0xc0, true},
		{3, 0x81, false, 0x40, true},
		{3, 0x80, true, 0xc0, false},
	}
	for _, x := range rows {
		if r, d := Turn(x.kind, x.a, x.c); r != x.r || d != x.d {
			t.Errorf("Turn %d of %#x, %v: %#x %v, not %#x %v", x.kind, x.a, x.c, r, d, x.r, x.d)
		}
	}
	eachByte(func(a byte) {
		for _, c := range []bool{false, true} {
			checkTurns(t, a, c)
		}
	})
}

// checkTurns: each turn, by doubling and halving.
func checkTurns(t *testing.T, a byte, c bool) {
	t.Helper()
	n, in := int(a), digit(c)
	wants := []struct {
		r int
		d bool
	}{
		{n*2%256 + n/128, n/128 == 1},
		{n/2 + n%2*128, n%2 == 1},
		{n*2%256 + in, n/128 == 1},
		{n/2 + in*128, n%2 == 1},
	}
	for kind, want := range wants {
		if r, d := Turn(kind, a, c); int(r) != want.r || d != want.d {
			t.Errorf("Turn %d of %#x, %v: %#x %v, not %#x %v", kind, a, c, r, d, want.r, want.d)
		}
	}
}

// P106: of any other kind all stays as it was.
func TestTurnNone(t *testing.T) {
	for _, kind := range []int{-1, 4, 5, 8, -4, 256, 257, math.MaxInt, math.MinInt} {
		eachByte(func(a byte) {
			for _, c := range []bool{false, true} {
				if r, d := Turn(kind, a, c); r != a || d != c {
					t.Errorf("Turn %d of %#x, %v: %#x %v", kind, a, c, r, d)
				}
			}
		})
	}
}

// P106: sums of words, at their edges and by steps that meet no power of two.
func TestAdd16(t *testing.T) {
	rows := []struct {
		a, b, r uint16
		c       bool
	}{
		{0, 0, 0, false},
		{65535, 0, 65535, false},
		{65535, 1, 0, true},
		{65535, 2, 1, true},
		{65535, 65535, 65534, true},
		{32768, 32767, 65535, false},
		{32768, 32768, 0, true},
		{0x00ff, 1, 0x0100, false},
	}
	for _, x := range rows {
		if r, c := Add16(x.a, x.b); r != x.r || c != x.c {
			t.Errorf("Add16 of %d, %d: %d %v, not %d %v", x.a, x.b, r, c, x.r, x.c)
		}
	}
	for a := 0; a < 65536; a += 97 {
		for b := 0; b < 65536; b += 89 {
			r, c := Add16(uint16(a), uint16(b))
			if int(r) != (a+b)%65536 || c != (a+b > 65535) {
				t.Fatalf("Add16 of %d, %d: %d %v", a, b, r, c)
			}
		}
	}
}

// P107: what was added is taken away again, and the other way round.
func TestSumsUndone(t *testing.T) {
	eachPair(func(a, b byte, c bool) {
		more, f := Add(a, b, c)
		if r, g := Sub(more, b, c); r != a || g.C != f.C {
			t.Fatalf("%#x and %#x and %v less these: %#x, %v behind %v", a, b, c, r, g, f)
		}
		less, f := Sub(a, b, c)
		if r, g := Add(less, b, c); r != a || g.C != f.C {
			t.Fatalf("%#x less %#x less %v and these: %#x, %v behind %v", a, b, c, r, g, f)
		}
	})
	eachByte(func(a byte) {
		eachFlags(func(f Flags) {
			if r, g := Dec(Inc(a, f)); r != a || g.C != f.C {
				t.Errorf("Dec of Inc of %#x, %v: %#x %v", a, f, r, g)
			}
			if r, g := Inc(Dec(a, f)); r != a || g.C != f.C {
				t.Errorf("Inc of Dec of %#x, %v: %#x %v", a, f, r, g)
			}
		})
	})
}

// P107: what was turned is turned back; through the carry the carry comes back too.
func TestTurnsUndone(t *testing.T) {
	eachByte(func(a byte) {
		for _, c := range []bool{false, true} {
			for kind, back := range []int{1, 0, 3, 2} {
				r, d := Turn(kind, a, c)
				r, d = Turn(back, r, d)
				if r != a || kind > 1 && d != c {
					t.Errorf("Turn %d, then %d, of %#x, %v: %#x %v", kind, back, a, c, r, d)
				}
			}
		}
	})
}
