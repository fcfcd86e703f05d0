package prefix

import (
	"bytes"
	"math"
	"testing"

	"squint/api"
)

// P3.1
func TestEncode(t *testing.T) {
	for _, c := range []struct {
		n, bits, mark int
		want          []byte
	}{
		{1337, 5, 0, []byte{31, 154, 10}},
		{1337, 5, 7, []byte{255, 154, 10}},
		{10, 5, 0, []byte{10}},
		{10, 5, 5, []byte{170}},
		{42, 8, 0, []byte{42}},
		{254, 8, 0, []byte{254}},
		{255, 8, 0, []byte{255, 0}},
		{30, 5, 0, []byte{30}},
		{31, 5, 0, []byte{31, 0}},
		{0, 1, 0, []byte{0}},
		{0, 1, 127, []byte{254}},
		{1, 1, 127, []byte{255, 0}},
		{127 + 127, 7, 1, []byte{255, 127}},
		{127 + 128, 7, 1, []byte{255, 128, 1}},
		{31 + 16383, 5, 0, []byte{31, 255, 127}},
		{31 + 16384, 5, 0, []byte{31, 128, 128, 1}},
		{math.MaxInt32, 8, 0, []byte{255, 128, 254, 255, 255, 7}},
		{math.MaxInt32, 1, 0, []byte{1, 254, 255, 255, 255, 7}},
	} {
		got, e := Encode(c.n, c.bits, c.mark)
		if !bytes.Equal(got, c.want) || e != api.OK {
			t.Errorf("Encode(%d, %d, %d): %v, %d", c.n, c.bits, c.mark, got, e)
		}
		if l := Len(c.n, c.bits); l != len(c.want) {
			t.Errorf("Len(%d, %d): %d", c.n, c.bits, l)
		}
	}
}

// P3.1
func TestEncodeRefuses(t *testing.T) {
	for _, c := range [][3]int{
		{0, 0, 0}, {0, 9, 0}, {0, -1, 0}, {0, math.MaxInt, 0}, {0, math.MinInt, 0}, {-1, 5, 0}, {math.MaxInt32 + 1, 5, 0}, {math.MinInt, 5, 0}, {math.MaxInt, 5, 0},
		{1, 5, 8}, {1, 5, -1}, {1, 8, 1}, {1, 1, 128}, {1, 7, 2}, {1, 4, 16}, {1, 5, math.MaxInt},
	} {
		if got, e := Encode(c[0], c[1], c[2]); len(got) != 0 || e != api.ErrRange {
			t.Errorf("Encode(%v): %v, %d", c, got, e)
		}
		if c[2] == 0 && Len(c[0], c[1]) != 0 {
			t.Errorf("Len(%v): %d", c, Len(c[0], c[1]))
		}
	}
}

// P3.2
func TestDecode(t *testing.T) {
	for _, c := range []struct {
		b       []byte
		bits    int
		n, used int
		e       api.Errno
	}{
		{[]byte{31, 154, 10, 99}, 5, 1337, 3, api.OK},
		{[]byte{255, 154, 10}, 5, 1337, 3, api.OK},
		{[]byte{234}, 5, 10, 1, api.OK},
		{[]byte{255, 0}, 8, 255, 2, api.OK},
		{[]byte{254}, 8, 254, 1, api.OK},
		{[]byte{31, 128, 0}, 5, 31, 3, api.OK},
		{[]byte{31, 129, 128, 128, 128, 0}, 5, 32, 6, api.OK},
		{[]byte{255, 128, 254, 255, 255, 7}, 8, math.MaxInt32, 6, api.OK},
		{[]byte{255, 129, 254, 255, 255, 7}, 8, 0, 0, api.ErrBig},
		{[]byte{255, 255, 255, 255, 255, 8}, 8, 0, 0, api.ErrBig},
		{[]byte{31, 128, 128, 128, 128, 136}, 5, 0, 0, api.ErrBig},
		{[]byte{31, 128, 128, 128, 128, 128, 0}, 5, 0, 0, api.ErrBig},
		{[]byte{31, 128, 128, 128, 128, 128, 255}, 5, 0, 0, api.ErrBig},
		{[]byte{31, 128, 128, 128, 128, 128}, 5, 0, 0, api.ErrShort},
		{[]byte{31, 128, 128, 128, 128}, 5, 0, 0, api.ErrShort},
		{[]byte{31}, 5, 0, 0, api.ErrShort},
		{nil, 5, 0, 0, api.ErrShort},
		{[]byte{}, 1, 0, 0, api.ErrShort},
		{nil, 0, 0, 0, api.ErrRange},
		{[]byte{1}, 9, 0, 0, api.ErrRange},
		{[]byte{1}, math.MinInt, 0, 0, api.ErrRange},
		{[]byte{1}, math.MaxInt, 0, 0, api.ErrRange},
	} {
		if n, used, e := Decode(c.b, c.bits); n != c.n || used != c.used || e != c.e {
			t.Errorf("Decode(%v, %d): %d, %d, %d", c.b, c.bits, n, used, e)
		}
	}
}

// P3.1, P3.2: Decode of Encode, and the mark stays.
func TestBackAgain(t *testing.T) {
	numbers := []int{0, 1, 2, 126, 127, 128, 254, 255, 256, 1337, 1 << 14, 1 << 21, 1 << 28, 1<<28 + 127, math.MaxInt32 - 1, math.MaxInt32}
	for bits := 1; bits <= 8; bits++ {
		for mark := range 1 << (8 - bits) {
			for _, x := range numbers {
				b, e := Encode(x, bits, mark)
				n, used, f := Decode(append(b, 255), bits)
				m, ok := Mark(b, bits)
				if e != api.OK || f != api.OK || n != x || used != len(b) || m != mark || !ok || Len(x, bits) != used {
					t.Fatalf("%d, %d, %d: %v, %d, %d, %d", x, bits, mark, b, n, used, m)
				}
				for cut := range b {
					if _, _, f := Decode(b[:cut], bits); f != api.ErrShort {
						t.Fatalf("Decode(%v, %d): %d", b[:cut], bits, f)
					}
				}
			}
		}
	}
}

// P3.2
func TestMark(t *testing.T) {
	for _, c := range []struct {
		b    []byte
		bits int
		mark int
		ok   bool
	}{
		{[]byte{0xff}, 5, 7, true}, {[]byte{0x9f, 1}, 7, 1, true}, {[]byte{0xff}, 8, 0, true}, {[]byte{0xff}, 1, 127, true}, {[]byte{0x1f}, 4, 1, true},
		{nil, 5, 0, false}, {[]byte{0xff}, 0, 0, false}, {[]byte{0xff}, 9, 0, false}, {[]byte{0xff}, -1, 0, false},
	} {
		if m, ok := Mark(c.b, c.bits); m != c.mark || ok != c.ok {
			t.Errorf("Mark(%v, %d): %d, %v", c.b, c.bits, m, ok)
		}
	}
}
