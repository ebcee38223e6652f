package image

import (
	"bytes"
	"math"
	"slices"
	"testing"

	"pidgin/api"
)

// part: bytes and where they are put.
type part struct {
	at int
	b  []byte
}

// of: an image of parts; each of them must be taken.
func of(t *testing.T, parts ...part) *Image {
	t.Helper()
	m := New()
	for _, p := range parts {
		put(t, m, p.at, p.b, api.OK)
	}
	return m
}

func put(t *testing.T, m *Image, at int, b []byte, want api.Kind) {
	t.Helper()
	if k := m.Put(at, b...); k != want {
		t.Errorf("Put of %d bytes at %d: %d, not %d", len(b), at, k, want)
	}
}

// holds: the image has just these bytes, as each of its calls tells.
func holds(t *testing.T, m *Image, want map[uint16]byte) {
	t.Helper()
	if n := m.Len(); n != len(want) {
		t.Errorf("Len: %d, not %d", n, len(want))
	}
	var list []api.Byte
	for n := range 65536 {
		at := uint16(n)
		b, is := m.Get(at)
		if w, has := want[at]; b != w || is != has {
			t.Fatalf("Get of %d: %d %v, not %d %v", at, b, is, w, has)
		} else if has {
			list = append(list, api.Byte{At: at, B: w})
		}
	}
	if got := m.Bytes(); !slices.Equal(got, list) {
		t.Errorf("Bytes: %d of them, not the %d that were put, by addresses", len(got), len(list))
	}
	sameRuns(t, m.Runs(), runsOf(want))
	for _, b := range []byte{0, 0x76, 255} {
		if !bytes.Equal(m.Fill(b), fillOf(want, b)) {
			t.Errorf("Fill of %d: other bytes", b)
		}
	}
}

func fillOf(want map[uint16]byte, b byte) []byte {
	full := make([]byte, 65536)
	for n := range full {
		if w, has := want[uint16(n)]; has {
			full[n] = w
		} else {
			full[n] = b
		}
	}
	return full
}

// runsOf tells them by where one begins and how far it goes, apart from what the package does.
func runsOf(want map[uint16]byte) []Run {
	var runs []Run
	for n := 0; n < 65536; n++ {
		var b []byte
		first := n
		for w, has := want[uint16(n)]; has && n < 65536; w, has = want[uint16(n)] {
			b = append(b, w)
			n++
		}
		if len(b) > 0 {
			runs = append(runs, Run{uint16(first), b})
		}
	}
	return runs
}

func sameRuns(t *testing.T, got, want []Run) {
	t.Helper()
	same := slices.EqualFunc(got, want, func(a, b Run) bool { return a.At == b.At && bytes.Equal(a.B, b.B) })
	if !same {
		t.Errorf("Runs: %v, not %v", short(got), short(want))
	}
}

// short: runs as a failed test can tell them.
func short(runs []Run) []Run { return runs[:min(len(runs), 8)] }

// upTo: n bytes, none of them 0.
func upTo(n int) []byte {
	b := make([]byte, n)
	for i := range b {
		b[i] = byte(i%251) + 1
	}
	return b
}

// P201, P202, P203: a new image has no bytes, and so has one of the zero value.
func TestNew(t *testing.T) {
	holds(t, New(), nil)
	holds(t, new(Image), nil)
	if !Same(New(), new(Image)) {
		t.Error("two without bytes are not the same")
	}
}

// The chapter's example: runs that touch are one.
func TestExample(t *testing.T) {
	m := of(t, part{5, []byte{1, 2}}, part{7, []byte{3}})
	sameRuns(t, m.Runs(), []Run{{5, []byte{1, 2, 3}}})
}

// P201: bytes stand from the address on, a byte of 0 too.
func TestPut(t *testing.T) {
	m := of(t, part{0x100, []byte{7, 0, 9}}, part{63, []byte{1, 2}}, part{0, []byte{0}}, part{127, []byte{3}})
	holds(t, m, map[uint16]byte{0x100: 7, 0x101: 0, 0x102: 9, 63: 1, 64: 2, 0: 0, 127: 3})
}

// P201: no bytes at all may be put anywhere up to 65536, on other bytes too.
func TestPutNone(t *testing.T) {
	m := of(t, part{5, []byte{1, 2}})
	for _, at := range []int{0, 4, 5, 6, 7, 65535, 65536} {
		put(t, m, at, nil, api.OK)
		put(t, m, at, []byte{}, api.OK)
	}
	holds(t, m, map[uint16]byte{5: 1, 6: 2})
	holds(t, of(t, part{65536, nil}), nil)
}

// P201: bytes up to address 65535, and the whole of all addresses.
func TestPutEnd(t *testing.T) {
	holds(t, of(t, part{65535, []byte{8}}), map[uint16]byte{65535: 8})
	holds(t, of(t, part{65533, []byte{1, 2, 3}}), map[uint16]byte{65533: 1, 65534: 2, 65535: 3})
	whole := upTo(65536)
	want := map[uint16]byte{}
	for n, b := range whole {
		want[uint16(n)] = b
	}
	holds(t, of(t, part{0, whole}), want)
	holds(t, of(t, part{40000, whole[40000:]}, part{0, whole[:40000]}), want)
}

// P201: which error is answered, of several too, and nothing has changed.
func TestPutErrors(t *testing.T) {
	big := make([]byte, 65537)
	rows := []struct {
		at int
		b  []byte
		k  api.Kind
	}{
		{-1, nil, api.BadArg},
		{-1, []byte{1}, api.BadArg},
		{-65536, []byte{1}, api.BadArg},
		{math.MinInt, []byte{1, 2}, api.BadArg},
		{-1, big, api.BadArg},                         // Overflow too, by its length
		{-1, big[:65536], api.BadArg},                 // Overlap too
		{65536, []byte{1}, api.Overflow},              // one beyond
		{65537, nil, api.Overflow},                    // beyond without a byte
		{65535, []byte{1, 2}, api.Overflow},           // and Overlap: 65535 has one
		{65534, []byte{1, 2, 3}, api.Overflow},        // and Overlap
		{0, big, api.Overflow},                        // and Overlap
		{1, big[:65536], api.Overflow},                // and Overlap
		{65536 + 100, []byte{1}, api.Overflow},        // 100 by the lowest 16 bits, which has one
		{math.MaxInt, []byte{1}, api.Overflow},        // a sum beyond any int
		{math.MaxInt, nil, api.Overflow},              //
		{math.MaxInt - 1, big, api.Overflow},          //
		{100, []byte{5, 6, 7}, api.Overlap},           // the first one has a byte
		{99, []byte{5, 6, 7}, api.Overlap},            // a middle one
		{98, []byte{5, 6, 7}, api.Overlap},            // the last one
		{100, []byte{42}, api.Overlap},                // the same byte
		{200, []byte{1}, api.Overlap},                 // a byte of 0 is one
		{65535, []byte{1}, api.Overlap},               // the last address
		{0, big[:65536], api.Overlap},                 // all addresses
		{101, upTo(100), api.Overlap},                 // far behind free ones
		{64 - 1, []byte{1, 2}, api.Overlap},           // 64 has one
		{65400, make([]byte, 136), api.Overlap},       // up to the end
		{101, append(upTo(99), 0, 0, 0), api.Overlap}, // a middle one, the same byte
	}
	m := of(t, part{100, []byte{42}}, part{200, []byte{0}}, part{64, []byte{9}}, part{65535, []byte{77}})
	want := map[uint16]byte{100: 42, 200: 0, 64: 9, 65535: 77}
	for _, r := range rows {
		put(t, m, r.at, r.b, r.k)
		if n := m.Len(); n != 4 {
			t.Fatalf("Put of %d bytes at %d: %d bytes now", len(r.b), r.at, n)
		}
	}
	holds(t, m, want)
	put(t, m, 98, []byte{5, 6}, api.OK)
	put(t, m, 101, upTo(99), api.OK)
	put(t, m, 100, []byte{42}, api.Overlap)
	put(t, m, 199, []byte{1}, api.Overlap)
}

// P201: each address that is marked is the one that was put, and no other.
func TestPutEach(t *testing.T) {
	for _, step := range []int{1, 2, 3, 63, 64, 65, 4096, 65535} {
		m, want := New(), map[uint16]byte{}
		for at := 65535; at >= 0; at -= step {
			put(t, m, at, []byte{byte(at / step)}, api.OK)
			want[uint16(at)] = byte(at / step)
		}
		holds(t, m, want)
		for at := 65535; at >= 0; at -= step {
			put(t, m, at, []byte{0}, api.Overlap)
		}
		holds(t, m, want)
	}
}

// P202: what has no byte answers 0 and false, beside what has one too.
func TestGet(t *testing.T) {
	m := of(t, part{65535, []byte{1}}, part{10, []byte{0, 2}})
	rows := []struct {
		at uint16
		b  byte
		is bool
	}{{0, 0, false}, {9, 0, false}, {10, 0, true}, {11, 2, true}, {12, 0, false}, {65534, 0, false}, {65535, 1, true}}
	for _, r := range rows {
		if b, is := m.Get(r.at); b != r.b || is != r.is {
			t.Errorf("Get of %d: %d %v, not %d %v", r.at, b, is, r.b, r.is)
		}
	}
}

// P202: by addresses, in whichever order they were put.
func TestBytes(t *testing.T) {
	m := of(t, part{300, []byte{4}}, part{2, []byte{0, 6}}, part{65535, []byte{1}}, part{0, []byte{9}})
	want := []api.Byte{{At: 0, B: 9}, {At: 2, B: 0}, {At: 3, B: 6}, {At: 300, B: 4}, {At: 65535, B: 1}}
	if got := m.Bytes(); !slices.Equal(got, want) {
		t.Errorf("Bytes: %v, not %v", got, want)
	}
	if n := m.Len(); n != 5 {
		t.Errorf("Len: %d, not 5", n)
	}
}

// P203: runs that touch are one, those with a gap are not; the last address and the first don't touch.
func TestRuns(t *testing.T) {
	rows := []struct {
		parts []part
		want  []Run
	}{
		{nil, nil},
		{[]part{{0, []byte{0}}}, []Run{{0, []byte{0}}}},
		{[]part{{7, []byte{3}}, {5, []byte{1, 2}}}, []Run{{5, []byte{1, 2, 3}}}},
		{[]part{{5, []byte{1}}, {7, []byte{3}}}, []Run{{5, []byte{1}}, {7, []byte{3}}}},
		{[]part{{5, []byte{1}}, {7, []byte{3}}, {6, []byte{0}}}, []Run{{5, []byte{1, 0, 3}}}},
		{[]part{{62, []byte{1, 2}}, {64, []byte{3, 4}}}, []Run{{62, []byte{1, 2, 3, 4}}}},
		{[]part{{65535, []byte{1}}, {0, []byte{2}}}, []Run{{0, []byte{2}}, {65535, []byte{1}}}},
		{[]part{{65534, []byte{1, 2}}, {0, []byte{3, 4}}}, []Run{{0, []byte{3, 4}}, {65534, []byte{1, 2}}}},
	}
	for _, r := range rows {
		sameRuns(t, of(t, r.parts...).Runs(), r.want)
	}
	whole := upTo(65536)
	sameRuns(t, of(t, part{0, whole}).Runs(), []Run{{0, whole}})
}

// P203: 65536 bytes, those that stand and b for all others.
func TestFill(t *testing.T) {
	m := of(t, part{65535, []byte{1}}, part{3, []byte{0, 4}})
	for n := range 256 {
		b := byte(n)
		full := m.Fill(b)
		if len(full) != 65536 {
			t.Fatalf("Fill: %d bytes", len(full))
		}
		head := []byte{b, b, b, 0, 4, b}
		if !bytes.Equal(full[:6], head) || full[65534] != b || full[65535] != 1 || bytes.Count(full[6:65535], []byte{b}) != 65529 {
			t.Errorf("Fill of %d: other bytes", b)
		}
	}
}

// P203: the same bytes at the same addresses, however they came there.
func TestSame(t *testing.T) {
	a := of(t, part{5, []byte{1, 2, 3}}, part{65535, []byte{0}})
	rows := []struct {
		b    *Image
		same bool
	}{
		{a, true},
		{of(t, part{5, []byte{1, 2, 3}}, part{65535, []byte{0}}), true},
		{of(t, part{65535, []byte{0}}, part{7, []byte{3}}, part{6, []byte{2}}, part{5, []byte{1}}), true},
		{of(t, part{5, []byte{1, 2, 3}}), false},
		{of(t, part{5, []byte{1, 2, 3}}, part{65534, []byte{0}}), false},
		{of(t, part{5, []byte{1, 2, 3, 0}}, part{65535, []byte{0}}), false},
		{of(t, part{5, []byte{1, 2, 4}}, part{65535, []byte{0}}), false},
		{of(t, part{6, []byte{1, 2, 3}}, part{65535, []byte{0}}), false},
		{New(), false},
		{nil, false},
	}
	for i, r := range rows {
		if Same(a, r.b) != r.same || Same(r.b, a) != r.same {
			t.Errorf("Same, row %d: not %v", i, r.same)
		}
	}
	b := of(t, part{5, []byte{1, 2, 3}}, part{65535, []byte{0}})
	put(t, b, 65535, []byte{9}, api.Overlap)
	put(t, b, 4, []byte{8, 9}, api.Overlap)
	if !Same(a, b) {
		t.Error("bytes that were refused have left something")
	}
}

// What the chapter says of nil.
func TestNil(t *testing.T) {
	var none *Image
	for _, at := range []int{0, 5, -1, 65536, 65537, math.MinInt, math.MaxInt} {
		put(t, none, at, []byte{1}, api.Nil)
		put(t, none, at, nil, api.Nil)
	}
	holds(t, none, nil)
	if !Same(none, none) || !Same(none, New()) || !Same(New(), none) {
		t.Error("Same: a nil one is not as one without bytes")
	}
	for at := 0; at < 65536; at += 4369 {
		m := of(t, part{at, []byte{0}})
		if Same(none, m) || Same(m, none) {
			t.Errorf("Same: a nil one is as one with a byte at %d", at)
		}
	}
}

// Rule 4: what is handed in is neither changed nor kept, spare room too.
func TestHandedIn(t *testing.T) {
	room := []byte{1, 2, 3, 4, 5, 6}
	in := room[1:3]
	m := of(t, part{9, in})
	if !bytes.Equal(room, []byte{1, 2, 3, 4, 5, 6}) {
		t.Errorf("what was handed in is %v now", room)
	}
	put(t, m, 11, []byte{8}, api.OK)
	if !bytes.Equal(room, []byte{1, 2, 3, 4, 5, 6}) {
		t.Errorf("what was handed in is %v later on", room)
	}
	in[0], in[1] = 70, 80
	holds(t, m, map[uint16]byte{9: 2, 10: 3, 11: 8})
}

// Rule 4: what is handed out is new memory, and so is each list in it, spare room too.
func TestHandedOut(t *testing.T) {
	want := map[uint16]byte{5: 1, 6: 2, 9: 4, 11: 6, 12: 7}
	m := of(t, part{5, []byte{1, 2}}, part{9, []byte{4}}, part{11, []byte{6, 7}})
	list, more := m.Bytes(), m.Bytes()
	list = list[:cap(list)]
	for i := range list {
		list[i] = api.Byte{At: 1, B: 1}
	}
	if !slices.Equal(more, []api.Byte{{At: 5, B: 1}, {At: 6, B: 2}, {At: 9, B: 4}, {At: 11, B: 6}, {At: 12, B: 7}}) {
		t.Errorf("Bytes: %v behind another's", more)
	}
	full, whole := m.Fill(3), m.Fill(3)
	clear(full[:cap(full)])
	if !bytes.Equal(whole, fillOf(want, 3)) {
		t.Error("Fill: other bytes behind another's")
	}
	apartRuns(t, m)
	holds(t, m, want)
}

// apartRuns: what is written into one run is seen in no other one.
func apartRuns(t *testing.T, m *Image) {
	t.Helper()
	want := []Run{{5, []byte{1, 2}}, {9, []byte{4}}, {11, []byte{6, 7}}}
	for i := range want {
		runs, more := m.Runs(), m.Runs()
		b := runs[i].B
		clear(b[:cap(b)])
		runs[i].B = want[i].B
		sameRuns(t, runs, want)
		spare := more[:cap(more)]
		clear(spare[len(more):])
		sameRuns(t, more, want)
	}
}

// Rule 5: two images share nothing.
func TestApart(t *testing.T) {
	a, b := New(), New()
	put(t, a, 1, []byte{1}, api.OK)
	put(t, b, 1, []byte{2}, api.OK)
	c := *a
	put(t, &c, 2, []byte{3}, api.OK)
	holds(t, a, map[uint16]byte{1: 1})
	holds(t, b, map[uint16]byte{1: 2})
	holds(t, &c, map[uint16]byte{1: 1, 2: 3})
}

// A caller that has seen enough is not asked on.
func TestAllStops(t *testing.T) {
	m := of(t, part{5, []byte{1, 2}}, part{200, []byte{3}})
	for seen := 1; seen <= 3; seen++ {
		n := 0
		for range m.all {
			if n++; n == seen {
				break
			}
		}
		if n != seen {
			t.Errorf("%d were seen, not %d", n, seen)
		}
	}
}

// Any puts, one behind the other, as a plain map has them.
func TestMany(t *testing.T) {
	m, want := New(), map[uint16]byte{}
	x := uint32(1)
	next := func(below int) int {
		x = x*1664525 + 1013904223
		return int(x>>8) % below
	}
	for range 4000 {
		at, b := next(65700)-60, upTo(next(40))
		put(t, m, at, b, kindOf(want, at, len(b)))
		if kindOf(want, at, len(b)) == api.OK {
			for i := range b {
				want[uint16(at+i)] = b[i]
			}
		}
	}
	holds(t, m, want)
}

func kindOf(want map[uint16]byte, at, n int) api.Kind {
	if at < 0 {
		return api.BadArg
	}
	if at+n > 65536 {
		return api.Overflow
	}
	for i := range n {
		if _, has := want[uint16(at+i)]; has {
			return api.Overlap
		}
	}
	return api.OK
}
