package frame

import (
	"bytes"
	"encoding/hex"
	"math"
	"math/rand"
	"slices"
	"strings"
	"testing"

	"squint/api"
)

func unhex(s string) []byte {
	b, err := hex.DecodeString(strings.ReplaceAll(s, " ", ""))
	if err != nil {
		panic(err)
	}
	return b
}

func TestNumbers(t *testing.T) {
	for i, kind := range []int{Data, Headers, Priority, Reset, Settings, Promise, Ping, Goaway, Update, Continuation} {
		if kind != i {
			t.Errorf("type %d is %d", i, kind)
		}
	}
	if HeadSize != 9 {
		t.Errorf("HeadSize: %d", HeadSize)
	}
}

// P9.1
func TestBytes(t *testing.T) {
	for _, c := range []struct {
		f    Frame
		want string
	}{
		{Frame{Type: Ping, Payload: []byte("abcdefgh")}, "00 00 08 06 00 00 00 00 00 61 62 63 64 65 66 67 68"},
		{Frame{}, "00 00 00 00 00 00 00 00 00"},
		{Frame{255, 254, api.MaxStream, []byte{1}}, "00 00 01 ff fe 7f ff ff ff 01"},
		{Frame{Headers, 5, 0x01020304, []byte{7, 8}}, "00 00 02 01 05 01 02 03 04 07 08"},
	} {
		got, e := c.f.Bytes()
		if !bytes.Equal(got, unhex(c.want)) || e != api.OK || c.f.Len() != len(got) || !c.f.Right() {
			t.Errorf("Bytes of %v: %x, %d, Len %d", c.f, got, e, c.f.Len())
		}
	}
}

// P9.1
func TestRight(t *testing.T) {
	most := make([]byte, 1<<24-1)
	for _, c := range []struct {
		f    Frame
		want bool
	}{
		{Frame{}, true}, {Frame{255, 255, api.MaxStream, nil}, true}, {Frame{0, 0, 0, most}, true},
		{Frame{-1, 0, 0, nil}, false}, {Frame{256, 0, 0, nil}, false}, {Frame{0, -1, 0, nil}, false}, {Frame{0, 256, 0, nil}, false},
		{Frame{0, 0, -1, nil}, false}, {Frame{0, 0, api.MaxStream + 1, nil}, false}, {Frame{0, 0, 0, append(most, 0)}, false},
		{Frame{math.MaxInt, 0, 0, nil}, false}, {Frame{0, math.MinInt, 0, nil}, false},
	} {
		if got := c.f.Right(); got != c.want {
			t.Errorf("Right of %d, %d, %d: %v", c.f.Type, c.f.Flags, c.f.Stream, got)
		}
		b, e := c.f.Bytes()
		if c.want && (e != api.OK || len(b) != c.f.Len()) || !c.want && (e != api.ErrForm || len(b) != 0) {
			t.Errorf("Bytes of %d, %d, %d: %d bytes, %d", c.f.Type, c.f.Flags, c.f.Stream, len(b), e)
		}
		if c.f.Len() != len(c.f.Payload)+HeadSize {
			t.Errorf("Len: %d", c.f.Len())
		}
	}
}

// P9.1
func TestHas(t *testing.T) {
	for _, flags := range []int{0, 1, 5, 0x2d, 255, 256, 256 + 8, -1, -256, math.MinInt, math.MaxInt} {
		f := Frame{Flags: flags}
		for _, flag := range []int{0, 1, 2, 3, 4, 5, 8, 16, 24, 32, 64, 128, 255, 256, 512, -1, -128, math.MinInt, math.MaxInt} {
			want := slices.Contains([]int{1, 2, 4, 8, 16, 32, 64, 128}, flag) && byte(flags)&byte(flag) != 0
			if got := f.Has(flag); got != want {
				t.Errorf("Has(%d) of %d: %v", flag, flags, got)
			}
		}
	}
}

// P9.1
func TestEqual(t *testing.T) {
	f := Frame{1, 2, 3, []byte{4}}
	for _, c := range []struct {
		g    Frame
		want bool
	}{
		{Frame{1, 2, 3, []byte{4}}, true}, {Frame{0, 2, 3, []byte{4}}, false}, {Frame{1, 0, 3, []byte{4}}, false}, {Frame{1, 2, 0, []byte{4}}, false},
		{Frame{1, 2, 3, []byte{5}}, false}, {Frame{1, 2, 3, nil}, false}, {Frame{1, 2, 3, []byte{4, 0}}, false},
	} {
		if f.Equal(c.g) != c.want || c.g.Equal(f) != c.want {
			t.Errorf("Equal of %v: %v", c.g, f.Equal(c.g))
		}
	}
	if !(Frame{}).Equal(Frame{Payload: []byte{}}) {
		t.Errorf("nil and empty are not one")
	}
}

// P9.2
func TestParse(t *testing.T) {
	for _, c := range []struct {
		b    string
		most int
		f    Frame
		used int
		e    api.Errno
	}{
		{"00 00 02 01 05 01 02 03 04 07 08 09", 2, Frame{1, 5, 0x01020304, []byte{7, 8}}, 11, api.OK},
		{"00 00 02 01 05 81 02 03 04 07 08 09", 100, Frame{1, 5, 0x01020304, []byte{7, 8}}, 11, api.OK},
		{"00 00 00 fa ff ff ff ff ff", 0, Frame{250, 255, api.MaxStream, nil}, 9, api.OK},
		{"00 00 00 00 00 00 00 00 00", -1, Frame{}, 0, api.FrameSize},
		{"00 00 02 01 05 01 02 03 04 07 08 09", 1, Frame{}, 0, api.FrameSize},
		{"00 00 02 01 05 01 02 03 04", 1, Frame{}, 0, api.FrameSize},
		{"00 00 02 01 05 01 02 03", 1, Frame{}, 0, api.ErrShort},
		{"00 00 02 01 05 01 02 03 04", 2, Frame{}, 0, api.ErrShort},
		{"00 00 02 01 05 01 02 03 04 07", 2, Frame{}, 0, api.ErrShort},
		{"", 5, Frame{}, 0, api.ErrShort},
		{"", -5, Frame{}, 0, api.ErrShort},
		{"ff ff ff 00 00 00 00 00 00", 1<<24 - 2, Frame{}, 0, api.FrameSize},
		{"ff ff ff 00 00 00 00 00 00", 1<<24 - 1, Frame{}, 0, api.ErrShort},
		{"ff ff ff 00 00 00 00 00 00", math.MaxInt, Frame{}, 0, api.ErrShort},
		{"00 40 01 00 00 00 00 00 00", math.MinInt, Frame{}, 0, api.FrameSize},
	} {
		f, used, e := Parse(unhex(c.b), c.most)
		if !f.Equal(c.f) || used != c.used || e != c.e {
			t.Errorf("Parse(%s, %d): %v, %d, %d", c.b, c.most, f, used, e)
		}
	}
}

// P9.2
func TestAll(t *testing.T) {
	two := "00 00 00 04 00 00 00 00 00  00 00 01 00 01 00 00 00 05 61"
	for _, c := range []struct {
		b    string
		most int
		n    int
		rest string
		e    api.Errno
	}{
		{two, 1, 2, "", api.OK},
		{two + "00 00 05", 1, 2, "00 00 05", api.OK},
		{two + "00 00 01 00 00 00 00 00 00", 1, 2, "00 00 01 00 00 00 00 00 00", api.OK},
		{two + "00 00 02 00 00 00 00 00 00", 1, 0, "", api.FrameSize},
		{two, 0, 0, "", api.FrameSize},
		{"", 0, 0, "", api.OK},
		{"00", -1, 0, "00", api.OK},
	} {
		l, rest, e := All(unhex(c.b), c.most)
		if len(l) != c.n || !bytes.Equal(rest, unhex(c.rest)) || e != c.e {
			t.Errorf("All(%s, %d): %v, %x, %d", c.b, c.most, l, rest, e)
		}
		if c.n == 2 && (!l[0].Equal(Frame{Type: Settings}) || !l[1].Equal(Frame{Data, 1, 5, []byte("a")})) {
			t.Errorf("All(%s): %v", c.b, l)
		}
	}
}

// P9.1, P9.2: All of Bytes.
func TestBackAgain(t *testing.T) {
	r := rand.New(rand.NewSource(1))
	for range 200 {
		var l []Frame
		var row []byte
		for range r.Intn(5) {
			f := Frame{r.Intn(256), r.Intn(256), r.Intn(1 << 31), make([]byte, r.Intn(300))}
			r.Read(f.Payload)
			l = append(l, f)
			b, _ := f.Bytes()
			row = append(row, b...)
		}
		got, rest, e := All(row, 300)
		if !slices.EqualFunc(got, l, Frame.Equal) || len(rest) != 0 || e != api.OK {
			t.Fatalf("%x: %v, %x, %d", row, got, rest, e)
		}
	}
}

// The rule on memory.
func TestShares(t *testing.T) {
	row := unhex("00 00 01 00 01 00 00 00 05 61  00 00 01 00 01 00 00 00 05 62 63 64")
	want := bytes.Clone(row)
	l, rest, _ := All(row, 10)
	l[0].Payload[0] = 'x'
	_ = append(l[0].Payload, 'y')
	rest[0] = 'z'
	f, _, _ := Parse(row, 10)
	f.Payload[0] = 'x'
	_ = append(f.Payload, 'y')
	out, _ := Frame{Payload: row[:3]}.Bytes()
	out[9] = 'q'
	if !bytes.Equal(row, want) {
		t.Errorf("the argument was changed: %x", row)
	}
	if string(l[1].Payload) != "b" {
		t.Errorf("answers share memory: %q", l[1].Payload)
	}
}
