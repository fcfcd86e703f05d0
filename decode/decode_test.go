package decode

import (
	"encoding/hex"
	"math"
	"slices"
	"strings"
	"testing"

	"squint/api"
	"squint/lit"
	"squint/prefix"
	"squint/static"
)

func unhex(s string) []byte {
	b, err := hex.DecodeString(strings.ReplaceAll(s, " ", ""))
	if err != nil {
		panic(err)
	}
	return b
}

func decoder(t *testing.T, most, bound int) *Decoder {
	d, e := New(most, bound)
	if e != api.OK {
		t.Fatalf("New(%d, %d): %d", most, bound, e)
	}
	return d
}

func field(name, value string) static.Field { return static.Field{Name: name, Value: value} }

func plain(l ...string) []Line {
	var out []Line
	for i := 0; i < len(l); i += 2 {
		out = append(out, Line{Field: field(l[i], l[i+1])})
	}
	return out
}

// P7.1
func TestNew(t *testing.T) {
	for _, c := range [][2]int{{0, 0}, {4096, api.MaxList}, {api.MaxTable, 1}} {
		d := decoder(t, c[0], c[1])
		if tab := d.Table(); tab.Limit() != c[0] || tab.Len() != 0 || d.Dead() {
			t.Errorf("New(%v): limit %d, %v", c, tab.Limit(), d.Dead())
		}
	}
	for _, c := range [][2]int{{-1, 0}, {api.MaxTable + 1, 0}, {0, -1}, {0, api.MaxList + 1}, {math.MinInt, 5}, {math.MaxInt, 5}, {5, math.MaxInt}, {5, math.MinInt}} {
		if d, e := New(c[0], c[1]); d != nil || e != api.ErrRange {
			t.Errorf("New(%v): %v, %d", c, d, e)
		}
	}
}

// P7.2: examples of RFC 7541, Appendix C.
func TestKnownBlocks(t *testing.T) {
	for _, c := range []struct {
		block string
		lines []Line
		table []static.Field
	}{
		{"400a 6375 7374 6f6d 2d6b 6579 0d63 7573 746f 6d2d 6865 6164 6572", plain("custom-key", "custom-header"), []static.Field{field("custom-key", "custom-header")}},
		{"040c 2f73 616d 706c 652f 7061 7468", plain(":path", "/sample/path"), nil},
		{"1008 7061 7373 776f 7264 0673 6563 7265 74", []Line{{field("password", "secret"), true}}, nil},
		{"82", plain(":method", "GET"), nil},
		{"bd", plain("www-authenticate", ""), nil},
		{"", nil, nil},
		{"40 01 61 01 62", plain("a", "b"), []static.Field{field("a", "b")}},
		{"0f 11 01 61", plain("cookie", "a"), nil},
		{"1f 11 01 61", []Line{{field("cookie", "a"), true}}, nil},
		{"00 00 00", plain("", ""), nil},
		{"40 00 00 be", plain("", "", "", ""), []static.Field{field("", "")}},
		{"40 01 61 01 62 be 7e 01 63 be bf", plain("a", "b", "a", "b", "a", "c", "a", "c", "a", "b"), []static.Field{field("a", "c"), field("a", "b")}},
		{"40 01 61 01 62 0f 2f 01 64 1f 2f 01 64", append(plain("a", "b", "a", "d"), Line{field("a", "d"), true}), []static.Field{field("a", "b")}},
		{"40 01 61 01 62 40 01 63 01 64 7f 00 01 65", plain("a", "b", "c", "d", "a", "e"), []static.Field{field("a", "e"), field("c", "d"), field("a", "b")}},
		{"20", nil, nil},
		{"20 3f e1 1f 82", plain(":method", "GET"), nil},
		{"8286 8441 8cf1 e3c2 e5f2 3a6b a0ab 90f4 ff", plain(":method", "GET", ":scheme", "http", ":path", "/", ":authority", "www.example.com"), []static.Field{field(":authority", "www.example.com")}},
	} {
		d := decoder(t, 4096, api.MaxList)
		l, e := d.Decode(unhex(c.block))
		if !slices.Equal(l, c.lines) || e != api.OK || d.Dead() {
			t.Errorf("%s: %v, %d", c.block, l, e)
		}
		if got := slices.Collect(d.Table().All()); !slices.Equal(got, c.table) {
			t.Errorf("%s: the table has %v", c.block, got)
		}
	}
}

// P7.2: RFC 7541, C.6: three responses by one decoder, whose table is full.
func TestResponses(t *testing.T) {
	d := decoder(t, 256, api.MaxList)
	for _, c := range []struct {
		block string
		lines []Line
		size  int
	}{
		{"4882 6402 5885 aec3 771a 4b61 96d0 7abe 9410 54d4 44a8 2005 9504 0b81 66e0 82a6 2d1b ff6e 919d 29ad 1718 63c7 8f0b 97c8 e9ae 82ae 43d3",
			plain(":status", "302", "cache-control", "private", "date", "Mon, 21 Oct 2013 20:13:21 GMT", "location", "https://www.example.com"), 222},
		{"4883 640e ffc1 c0bf",
			plain(":status", "307", "cache-control", "private", "date", "Mon, 21 Oct 2013 20:13:21 GMT", "location", "https://www.example.com"), 222},
		{"88c1 6196 d07a be94 1054 d444 a820 0595 040b 8166 e084 a62d 1bff c05a 839b d9ab 77ad 94e7 821d d7f2 e6c7 b335 dfdf cd5b 3960 d5af 2708 7f36 72c1 ab27 0fb5 291f 9587 3160 65c0 03ed 4ee5 b106 3d50 07",
			plain(":status", "200", "cache-control", "private", "date", "Mon, 21 Oct 2013 20:13:22 GMT", "location", "https://www.example.com", "content-encoding", "gzip", "set-cookie", "foo=ASDJKHQKBZXOQWEOPIUAXQWEOIU; max-age=3600; version=1"), 215},
	} {
		l, e := d.Decode(unhex(c.block))
		if !slices.Equal(l, c.lines) || e != api.OK || d.Table().Size() != c.size {
			t.Errorf("%v, %d, size %d", l, e, d.Table().Size())
		}
	}
}

// P7.2: errors, and which one is told first.
func TestErrors(t *testing.T) {
	for _, c := range []struct {
		block string
		e     api.Errno
	}{
		{"80", api.ErrIndex},
		{"be", api.ErrIndex},
		{"40 01 61 01 62 bf", api.ErrIndex},
		{"ff", api.ErrShort},
		{"ff ff ff ff ff 7f", api.ErrBig},
		{"ff 80 80 80 80 80 00", api.ErrBig},
		{"40", api.ErrShort},
		{"40 01", api.ErrShort},
		{"40 01 61", api.ErrShort},
		{"40 01 61 02 62", api.ErrShort},
		{"7f 00 01 62", api.ErrIndex}, // 63: the table has none
		{"7e", api.ErrIndex},          // the name's number ahead of the missing value
		{"0f 2f", api.ErrIndex},
		{"1f 2f", api.ErrIndex},
		{"0f", api.ErrShort},
		{"00 81 1e 81 ff", api.ErrPad},
		{"00 84 ff ff ff ff", api.ErrEOS},
		{"00 01 61 84 ff ff ff ff", api.ErrEOS},
		{"00 81 1e", api.ErrPad}, // the name's error first
		{"82 20", api.ErrSize},
		{"82 3f ff", api.ErrShort}, // the number's error first
		{"3f e2 1f", api.ErrSize},  // 4097
		{"20 82 20", api.ErrSize},  // behind a field
		{"3f ff ff ff ff 7f", api.ErrBig},
		{"82 80", api.ErrIndex},
	} {
		d := decoder(t, 4096, api.MaxList)
		l, e := d.Decode(unhex(c.block))
		if len(l) != 0 || e != c.e || !d.Dead() {
			t.Errorf("%s: %v, %d, not %d; dead: %v", c.block, l, e, c.e, d.Dead())
		}
		if l, e := d.Decode(unhex("82")); len(l) != 0 || e != api.ErrState {
			t.Errorf("behind that: %v, %d", l, e)
		}
		if l, e := d.Decode(nil); len(l) != 0 || e != api.ErrState {
			t.Errorf("behind that: %v, %d", l, e)
		}
	}
}

// P7.2: a limit may be anything up to the most, whatever it was ahead of that.
func TestLimits(t *testing.T) {
	d := decoder(t, 100, api.MaxList)
	num := func(n int) []byte {
		b, _ := prefix.Encode(n, 5, 1)
		return b
	}
	for _, n := range []int{0, 50, 100, 33, 100} {
		if _, e := d.Decode(num(n)); e != api.OK || d.Table().Limit() != n {
			t.Errorf("limit %d: %d, %d", n, e, d.Table().Limit())
		}
	}
	d.Decode(unhex("40 01 61 01 62"))
	if l, e := d.Decode(append(append(num(33), num(100)...), 0x82)); len(l) != 1 || e != api.OK || d.Table().Len() != 0 {
		t.Errorf("%v, %d, %d", l, e, d.Table().Len())
	}
	if _, e := d.Decode(num(101)); e != api.ErrSize || d.Table().Limit() != 100 {
		t.Errorf("limit 101: %d", e)
	}
	none := decoder(t, 0, api.MaxList)
	if l, e := none.Decode(unhex("40 01 61 01 62")); len(l) != 1 || e != api.OK || none.Table().Len() != 0 {
		t.Errorf("%v, %d", l, e)
	}
	if _, e := none.Decode(unhex("21")); e != api.ErrSize {
		t.Errorf("limit 1: %d", e)
	}
}

// P7.2: the bound counts sizes; what is to be added is added ahead of that, and stays.
func TestBound(t *testing.T) {
	for _, c := range []struct {
		bound int
		e     api.Errno
	}{{68, api.OK}, {67, api.ErrBig}, {34, api.ErrBig}, {33, api.ErrBig}, {0, api.ErrBig}} {
		d := decoder(t, 4096, c.bound)
		_, e := d.Decode(unhex("40 01 61 01 62 be"))
		if e != c.e || d.Dead() != (c.e != api.OK) || d.Table().Len() != 1 {
			t.Errorf("bound %d: %d, the table has %d", c.bound, e, d.Table().Len())
		}
	}
	d := decoder(t, 4096, 0)
	if l, e := d.Decode(nil); len(l) != 0 || e != api.OK {
		t.Errorf("nothing: %v, %d", l, e)
	}
	// of each block alone
	d = decoder(t, 4096, 42)
	for range 3 {
		if _, e := d.Decode(unhex("82")); e != api.OK {
			t.Errorf("a block of 42: %d", e)
		}
	}
	if _, e := d.Decode(unhex("82 82")); e != api.ErrBig {
		t.Errorf("a block of 84: %d", e)
	}
}

// P7.2: a text's limit is MaxText.
func TestTexts(t *testing.T) {
	most, _ := lit.Encode([]byte(strings.Repeat("x", api.MaxText)), false)
	head, _ := prefix.Encode(api.MaxText+1, 7, 0)
	more := append(head, strings.Repeat("x", api.MaxText+1)...)
	for _, c := range []struct {
		block []byte
		e     api.Errno
	}{
		{append([]byte{0, 0}, most...), api.OK},
		{append(append([]byte{0}, most...), 0), api.OK},
		{append([]byte{0, 0}, more...), api.ErrBig},
		{append(append([]byte{0}, more...), 0), api.ErrBig},
	} {
		if l, e := decoder(t, 0, api.MaxList).Decode(c.block); e != c.e || e == api.OK && l[0].Size() != api.MaxText+32 {
			t.Errorf("%x..: %d", c.block[:4], e)
		}
	}
}

// P7.2: what was done to the table ahead of an error stays.
func TestTheTableBehindAnError(t *testing.T) {
	d := decoder(t, 4096, api.MaxList)
	if _, e := d.Decode(unhex("3f 45 40 01 61 01 62 80")); e != api.ErrIndex {
		t.Fatalf("%d", e)
	}
	if tab := d.Table(); tab.Limit() != 100 || tab.Len() != 1 {
		t.Errorf("limit %d, %d fields", tab.Limit(), tab.Len())
	}
}

// P7.1
func TestTableAndCopy(t *testing.T) {
	d := decoder(t, 4096, 100)
	d.Decode(unhex("40 01 61 01 62"))
	tab := d.Table()
	tab.Add(field("x", "y"))
	if d.Table().Len() != 1 {
		t.Errorf("Table is the decoder's own")
	}
	c := d.Copy()
	if l, e := c.Decode(unhex("be 40 01 63 01 64")); !slices.Equal(l, plain("a", "b", "c", "d")) || e != api.OK {
		t.Errorf("the copy: %v, %d", l, e)
	}
	if d.Table().Len() != 1 || c.Table().Len() != 2 {
		t.Errorf("the copy's table is the decoder's own")
	}
	if _, e := c.Decode(unhex("be be be")); e != api.ErrBig || !c.Dead() || d.Dead() {
		t.Errorf("the copy's bound: %d, dead %v, %v", e, c.Dead(), d.Dead())
	}
	if !c.Copy().Dead() {
		t.Errorf("the copy of a dead one isn't dead")
	}
}

// P7.1: and a line's calls are its field's.
func TestFields(t *testing.T) {
	if got := Fields([]Line{{field("a", "b"), true}, {field("c", ""), false}}); !slices.Equal(got, []static.Field{field("a", "b"), field("c", "")}) {
		t.Errorf("Fields: %v", got)
	}
	if got := Fields(nil); len(got) != 0 {
		t.Errorf("Fields of nothing: %v", got)
	}
	if got := (Line{field("a", "b"), true}).Size(); got != 34 {
		t.Errorf("Size: %d", got)
	}
}

// FuzzDecode: whatever comes, a call ends, and is the same another time.
func FuzzDecode(f *testing.F) {
	f.Add(unhex("8286 8441 8cf1 e3c2 e5f2 3a6b a0ab 90f4 ff"))
	f.Add(unhex("20 3f e1 1f 82"))
	f.Fuzz(func(t *testing.T, b []byte) {
		d, _ := New(128, 512)
		c := d.Copy()
		for range 2 {
			l, e := d.Decode(b)
			m, g := c.Decode(b)
			if !slices.Equal(l, m) || e != g || (e != api.OK) != d.Dead() || static.Sum(Fields(l)) > 512 || d.Table().Size() > d.Table().Limit() {
				t.Fatalf("%x: %v, %d and %v, %d", b, l, e, m, g)
			}
		}
	})
}
