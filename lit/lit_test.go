package lit

import (
	"bytes"
	"encoding/hex"
	"math"
	"math/rand"
	"testing"

	"squint/api"
	"squint/huff"
)

func unhex(t *testing.T, s string) []byte {
	b, err := hex.DecodeString(s)
	if err != nil {
		t.Fatal(err)
	}
	return b
}

// P4.1
func TestEncode(t *testing.T) {
	for _, c := range []struct {
		s     string
		coded bool
		want  string
	}{
		{"a", false, "0161"}, {"a", true, "811f"}, {"", false, "00"}, {"", true, "80"},
		{"custom-key", false, "0a637573746f6d2d6b6579"}, {"custom-key", true, "8825a849e95ba97d7f"},
		{"www.example.com", true, "8cf1e3c2e5f23a6ba0ab90f4ff"}, {"\x00", true, "82ffc7"},
	} {
		got, e := Encode([]byte(c.s), c.coded)
		if !bytes.Equal(got, unhex(t, c.want)) || e != api.OK {
			t.Errorf("Encode(%q, %v): %x, %d", c.s, c.coded, got, e)
		}
		if n := Len([]byte(c.s), c.coded); n != len(c.want)/2 {
			t.Errorf("Len(%q, %v): %d", c.s, c.coded, n)
		}
	}
}

// P4.1: the limit.
func TestEncodeAtTheLimit(t *testing.T) {
	for _, coded := range []bool{false, true} {
		most := bytes.Repeat([]byte{'a'}, api.MaxText)
		got, e := Encode(most, coded)
		if e != api.OK || len(got) != Len(most, coded) {
			t.Errorf("Encode of MaxText: %d bytes, %d", len(got), e)
		}
		if s, used, f := Decode(got, api.MaxText); !bytes.Equal(s, most) || used != len(got) || f != api.OK {
			t.Errorf("Decode of MaxText: %d bytes, %d, %d", len(s), used, f)
		}
		more := append(most, 'a')
		if got, e := Encode(more, coded); len(got) != 0 || e != api.ErrRange || Len(more, coded) != 0 || len(Short(more)) != 0 {
			t.Errorf("Encode above MaxText: %d bytes, %d, Len %d, Short %d", len(got), e, Len(more, coded), len(Short(more)))
		}
	}
	if got := Short(bytes.Repeat([]byte{0}, api.MaxText)); len(got) != api.MaxText+3 || got[0] != 0x7f {
		t.Errorf("Short of noughts: %d bytes, %x", len(got), got[0])
	}
}

// P4.1
func TestShort(t *testing.T) {
	for _, c := range [][2]string{
		{"", "00"},                           // both have one byte: plain
		{"a", "0161"},                        // both have two: plain
		{"\x00", "0100"},                     // the plain one is shorter
		{"aa", "026161"},                     // ten bits are two bytes: as many
		{"custom-key", "8825a849e95ba97d7f"}, // the coded one is shorter
	} {
		want := unhex(t, c[1])
		if got := Short([]byte(c[0])); !bytes.Equal(got, want) {
			t.Errorf("Short(%q): %x", c[0], got)
		}
	}
	r := rand.New(rand.NewSource(1))
	for range 500 {
		s := make([]byte, r.Intn(300))
		for i := range s {
			s[i] = byte("abcXYZ~\x00\xff"[r.Intn(9)])
		}
		plain, _ := Encode(s, false)
		coded, _ := Encode(s, true)
		want := plain
		if len(coded) < len(plain) {
			want = coded
		}
		if got := Short(s); !bytes.Equal(got, want) {
			t.Fatalf("Short(%x): %x, not %x", s, got, want)
		}
		if Len(s, false) != len(plain) || Len(s, true) != len(coded) {
			t.Fatalf("Len(%x): %d, %d", s, Len(s, false), Len(s, true))
		}
	}
}

// P4.2
func TestDecode(t *testing.T) {
	long := append(unhex(t, "7f00"), bytes.Repeat([]byte{'x'}, 127)...)
	for _, c := range []struct {
		b     []byte
		limit int
		s     string
		used  int
		e     api.Errno
	}{
		{unhex(t, "0161ff"), 10, "a", 2, api.OK},
		{unhex(t, "811fff"), 10, "a", 2, api.OK},
		{unhex(t, "00"), 0, "", 1, api.OK},
		{unhex(t, "80"), 0, "", 1, api.OK},
		{unhex(t, "0161"), 1, "a", 2, api.OK},
		{unhex(t, "0161"), 0, "", 0, api.ErrBig},
		{unhex(t, "811f"), 1, "a", 2, api.OK},
		{unhex(t, "811f"), 0, "", 0, api.ErrBig},
		{unhex(t, "00"), -1, "", 0, api.ErrBig},
		{unhex(t, "80"), math.MinInt, "", 0, api.ErrBig},
		{unhex(t, "0161"), math.MaxInt, "a", 2, api.OK},
		{long, 127, string(long[2:]), 129, api.OK},
		{long, 126, "", 0, api.ErrBig},
		{long[:128], 126, "", 0, api.ErrShort},
		{nil, 10, "", 0, api.ErrShort},
		{unhex(t, "01"), 10, "", 0, api.ErrShort},
		{unhex(t, "81"), 0, "", 0, api.ErrShort},
		{unhex(t, "7f"), 10, "", 0, api.ErrShort},
		{unhex(t, "7f80"), 10, "", 0, api.ErrShort},
		{unhex(t, "7fffffffff08"), 10, "", 0, api.ErrBig},
		{unhex(t, "ffffffffff7f"), 10, "", 0, api.ErrBig},
		{unhex(t, "7f80feffff07"), 10, "", 0, api.ErrShort},
		{unhex(t, "811e"), 10, "", 0, api.ErrPad},
		{unhex(t, "811e"), 0, "", 0, api.ErrPad},
		{unhex(t, "81ff"), 10, "", 0, api.ErrPad},
		{unhex(t, "84ffffffff"), 10, "", 0, api.ErrEOS},
		{unhex(t, "84ffffffff"), -1, "", 0, api.ErrEOS},
	} {
		s, used, e := Decode(c.b, c.limit)
		if string(s) != c.s || used != c.used || e != c.e {
			t.Errorf("Decode(%x, %d): %q, %d, %d", c.b, c.limit, s, used, e)
		}
	}
}

// P4.2: a coded text's own length counts, not its code's.
func TestDecodeCountsTheText(t *testing.T) {
	s := bytes.Repeat([]byte{'0'}, 16)
	b, _ := Encode(s, true)
	if len(huff.Encode(s)) != 10 {
		t.Fatalf("the code has %d bytes", len(b))
	}
	if _, _, e := Decode(b, 15); e != api.ErrBig {
		t.Errorf("limit 15: %d", e)
	}
	if got, used, e := Decode(b, 16); !bytes.Equal(got, s) || used != len(b) || e != api.OK {
		t.Errorf("limit 16: %q, %d, %d", got, used, e)
	}
	wide, _ := Encode([]byte{0, 0}, true) // its code has four bytes
	if got, _, e := Decode(wide, 2); len(got) != 2 || e != api.OK {
		t.Errorf("limit 2: %x, %d", got, e)
	}
}

// The rule on memory: an answer shares nothing with an argument.
func TestDecodeShares(t *testing.T) {
	b := append(make([]byte, 0, 16), 2, 'a', 'b', 'c')
	s, _, _ := Decode(b, 10)
	s[0] = 'z'
	_ = append(s, 'y')
	if string(b) != "\x02abc" {
		t.Errorf("the argument was changed: %q", b)
	}
	arg := append(make([]byte, 0, 16), "xyz"...)
	got, _ := Encode(arg, false)
	got[1] = 'q'
	if string(arg) != "xyz" || arg[:4][3] != 0 {
		t.Errorf("the argument was changed: %q", arg[:4])
	}
}
