package octet

import (
	"bytes"
	"math"
	"testing"
)

// P1.1
func TestBig(t *testing.T) {
	for _, c := range []struct {
		x    uint64
		n    int
		want []byte
	}{
		{258, 3, []byte{0, 1, 2}},
		{258, 2, []byte{1, 2}},
		{258, 1, []byte{2}},
		{258, 0, nil},
		{258, -1, nil},
		{258, math.MinInt, nil},
		{258, math.MaxInt, nil},
		{258, 65, nil},
		{0x0102030405060708, 8, []byte{1, 2, 3, 4, 5, 6, 7, 8}},
		{0x0102030405060708, 9, []byte{0, 1, 2, 3, 4, 5, 6, 7, 8}},
		{math.MaxUint64, 10, []byte{0, 0, 255, 255, 255, 255, 255, 255, 255, 255}},
		{0, 2, []byte{0, 0}},
	} {
		if got := Big(c.x, c.n); !bytes.Equal(got, c.want) {
			t.Errorf("Big(%d, %d): %v, not %v", c.x, c.n, got, c.want)
		}
	}
	if got := Big(1, 64); len(got) != 64 || got[63] != 1 || got[0] != 0 {
		t.Errorf("Big(1, 64): %v", got)
	}
}

// P1.1
func TestNum(t *testing.T) {
	for _, c := range []struct {
		b    []byte
		want uint64
		ok   bool
	}{
		{nil, 0, true},
		{[]byte{0}, 0, true},
		{[]byte{1, 0}, 256, true},
		{[]byte{0, 0, 1, 2}, 258, true},
		{[]byte{255, 255, 255, 255, 255, 255, 255, 255}, math.MaxUint64, true},
		{[]byte{1, 2, 3, 4, 5, 6, 7, 8}, 0x0102030405060708, true},
		{[]byte{0, 0, 0, 0, 0, 0, 0, 0, 1}, 0, false},
	} {
		if got, ok := Num(c.b); got != c.want || ok != c.ok {
			t.Errorf("Num(%v): %d, %v", c.b, got, ok)
		}
	}
	for n := range 9 {
		x := uint64(0x8182838485868788)
		if n < 8 {
			x &= 1<<(8*n) - 1
		}
		if got, ok := Num(Big(x, n)); got != x || !ok {
			t.Errorf("Num(Big(%x, %d)): %x, %v", x, n, got, ok)
		}
	}
}

// P1.2
func TestReaderReadsInOrder(t *testing.T) {
	r := New([]byte{1, 2, 3, 4, 5, 6, 7, 8, 9, 10, 11, 12, 13, 14})
	if r.Left() != 14 {
		t.Errorf("Left: %d", r.Left())
	}
	if c, ok := r.Byte(); c != 1 || !ok {
		t.Errorf("Byte: %d, %v", c, ok)
	}
	if x, ok := r.Num(2); x != 0x0203 || !ok {
		t.Errorf("Num(2): %x, %v", x, ok)
	}
	if x, ok := r.Num(8); x != 0x0405060708090a0b || !ok {
		t.Errorf("Num(8): %x, %v", x, ok)
	}
	if b, ok := r.Take(2); !bytes.Equal(b, []byte{12, 13}) || !ok {
		t.Errorf("Take(2): %v, %v", b, ok)
	}
	if r.Left() != 1 {
		t.Errorf("Left: %d", r.Left())
	}
	if b := r.Rest(); !bytes.Equal(b, []byte{14}) {
		t.Errorf("Rest: %v", b)
	}
	if r.Left() != 0 || len(r.Rest()) != 0 {
		t.Errorf("behind Rest: %d left", r.Left())
	}
}

// P1.2: what can't be read leaves the reader where it is.
func TestReaderRefuses(t *testing.T) {
	r := New([]byte{7, 8, 9})
	for _, n := range []int{-1, 4, 9, math.MinInt, math.MaxInt} {
		if x, ok := r.Num(n); x != 0 || ok {
			t.Errorf("Num(%d): %d, %v", n, x, ok)
		}
	}
	for _, n := range []int{-1, 4, math.MinInt, math.MaxInt} {
		if b, ok := r.Take(n); len(b) != 0 || ok {
			t.Errorf("Take(%d): %v, %v", n, b, ok)
		}
	}
	if x, ok := r.Num(0); x != 0 || !ok {
		t.Errorf("Num(0): %d, %v", x, ok)
	}
	if b, ok := r.Take(0); len(b) != 0 || !ok {
		t.Errorf("Take(0): %v, %v", b, ok)
	}
	if r.Left() != 3 {
		t.Errorf("Left: %d", r.Left())
	}
	if b, ok := r.Take(3); !bytes.Equal(b, []byte{7, 8, 9}) || !ok {
		t.Errorf("Take(3): %v, %v", b, ok)
	}
	if c, ok := r.Byte(); c != 0 || ok {
		t.Errorf("Byte at the end: %d, %v", c, ok)
	}
	long := New(make([]byte, 20))
	if _, ok := long.Num(9); ok || long.Left() != 20 {
		t.Errorf("Num(9): %v, %d left", ok, long.Left())
	}
}

// P1.2 and the rule on memory: nothing is shared with an argument or another answer.
func TestReaderShares(t *testing.T) {
	b := append(make([]byte, 0, 16), 1, 2, 3, 4, 5)
	r := New(b)
	b[0] = 99
	first, _ := r.Take(2)
	if !bytes.Equal(first, []byte{1, 2}) {
		t.Errorf("the reader keeps its argument: %v", first)
	}
	_ = append(first, 77)
	first[1] = 88
	second, _ := r.Take(1)
	if !bytes.Equal(second, []byte{3}) {
		t.Errorf("what is appended to an answer is read: %v", second)
	}
	_ = append(second, 66)
	rest := r.Rest()
	if !bytes.Equal(rest, []byte{4, 5}) || cap(rest) != 2 {
		t.Errorf("Rest: %v, room %d", rest, cap(rest))
	}
	if !bytes.Equal(b, []byte{99, 2, 3, 4, 5}) || b[:6][5] != 0 {
		t.Errorf("the argument was changed: %v", b[:6])
	}
}
