package encode

import (
	"bytes"
	"encoding/hex"
	"math/rand"
	"slices"
	"strings"
	"testing"

	"squint/api"
	"squint/decode"
	"squint/lit"
	"squint/prefix"
	"squint/static"
)

func unhex(s string) []byte {
	b, err := hex.DecodeString(strings.ReplaceAll(s, " ", ""))
	if err != nil {
		panic(err)
	}
	return b
}

func line(name, value string, never bool) decode.Line {
	return decode.Line{Field: static.Field{Name: name, Value: value}, Never: never}
}

// P8.1
func TestLine(t *testing.T) {
	for _, c := range []struct {
		x    decode.Line
		want string
	}{
		{line(":method", "GET", false), "82"},
		{line(":method", "GET", true), "12 03 47 45 54"},
		{line(":status", "500", false), "8e"},
		{line("www-authenticate", "", false), "bd"},
		{line("cookie", "", false), "a0"},
		{line("cookie", "a", true), "1f 11 01 61"},
		{line("cookie", "a", false), "0f 11 01 61"},
		{line("cookie", "", true), "1f 11 00"},
		{line(":status", "418", false), "08 03 34 31 38"},
		{line(":path", "/x", false), "04 02 2f 78"},
		{line("accept-charset", "x", false), "0f 00 01 78"},
		{line(":status", "302", false), "08 82 64 02"},
		{line("custom-key", "custom-value", false), "00 88 25a849e95ba97d7f 89 25a849e95bb8e8b4bf"},
		{line("custom-key", "custom-value", true), "10 88 25a849e95ba97d7f 89 25a849e95bb8e8b4bf"},
		{line("", "", false), "00 00 00"},
		{line("A", "\x00", true), "10 01 41 01 00"},
	} {
		got, e := Line(c.x)
		if !bytes.Equal(got, unhex(c.want)) || e != api.OK {
			t.Errorf("Line(%v): %x, %d", c.x, got, e)
		}
		if n := Len([]decode.Line{c.x}); n != len(got) {
			t.Errorf("Len(%v): %d", c.x, n)
		}
	}
}

// P8.1
func TestEncode(t *testing.T) {
	l := []decode.Line{line(":method", "GET", false), line(":scheme", "http", false), line(":path", "/", false), line("cookie", "a", true)}
	got, e := Encode(l)
	if want := unhex("82 86 84 1f 11 01 61"); !bytes.Equal(got, want) || e != api.OK || Len(l) != len(want) {
		t.Errorf("Encode: %x, %d, Len %d", got, e, Len(l))
	}
	if got, e := Encode(nil); len(got) != 0 || e != api.OK || Len(nil) != 0 {
		t.Errorf("Encode of nothing: %x, %d", got, e)
	}
}

// P8.1
func TestRefused(t *testing.T) {
	most, more := strings.Repeat("a", api.MaxText), strings.Repeat("a", api.MaxText+1)
	for _, c := range []struct {
		x decode.Line
		e api.Errno
	}{
		{line(most, most, false), api.OK}, {line("cookie", most, true), api.OK},
		{line(more, "", false), api.ErrRange}, {line("cookie", more, false), api.ErrRange}, {line("", more, true), api.ErrRange}, {line(more, more, true), api.ErrRange},
	} {
		got, e := Line(c.x)
		if e != c.e || (e != api.OK) != (len(got) == 0) {
			t.Errorf("Line: %d bytes, %d", len(got), e)
		}
		l := []decode.Line{line(":method", "GET", false), c.x, line(":method", "GET", false)}
		got, e = Encode(l)
		if e != c.e || (e != api.OK) != (len(got) == 0) || Len(l) != len(got) {
			t.Errorf("Encode: %d bytes, %d, Len %d", len(got), e, Len(l))
		}
	}
}

// P8.2
func TestPlain(t *testing.T) {
	most, _ := lit.Encode(bytes.Repeat([]byte{'x'}, api.MaxText), false)
	head, _ := prefix.Encode(api.MaxText+1, 7, 0)
	for _, c := range []struct {
		b    []byte
		want bool
	}{
		{nil, true},
		{unhex("82"), true},
		{unhex("bd"), true},
		{unhex("82 bd 81"), true},
		{unhex("80"), false},
		{unhex("be"), false},
		{unhex("82 be"), false},
		{unhex("ff"), false},
		{unhex("ff 00"), false},
		{unhex("ff ff ff ff ff 7f"), false},
		{unhex("40 01 61 01 62"), false},
		{unhex("44 01 61"), false},
		{unhex("20"), false},
		{unhex("3f e1 1f"), false},
		{unhex("82 20"), false},
		{unhex("00 01 61 01 62"), true},
		{unhex("10 01 61 01 62"), true},
		{unhex("00 81 1f 01 62"), true},
		{unhex("00 81 1e 01 62"), false},
		{unhex("00 01 61"), false},
		{unhex("00 01 61 01"), false},
		{unhex("00"), false},
		{unhex("0f 2e 01 61"), true}, // 61
		{unhex("1f 2e 01 61"), true},
		{unhex("0f 2f 01 61"), false}, // 62
		{unhex("1f 2f 01 61"), false},
		{unhex("0f"), false},
		{unhex("04 01"), false},
		{unhex("04 01 2f 82"), true},
		{unhex("04 01 2f 40 00 00"), false},
		{append(unhex("04"), most...), true},
		{append(append(unhex("04"), head...), bytes.Repeat([]byte{'x'}, api.MaxText+1)...), false},
	} {
		if got := Plain(c.b); got != c.want {
			t.Errorf("Plain(%x..): %v", c.b[:min(len(c.b), 8)], got)
		}
	}
}

// P8.2: what Encode tells is plain, and any decoder reads it, and is left as it was.
func TestDecodersReadIt(t *testing.T) {
	r := rand.New(rand.NewSource(1))
	names := []string{":method", ":status", "cookie", "x", "custom-key", "", "\x00\xff", "accept-charset", "www-authenticate"}
	values := []string{"", "GET", "200", "a", "custom-value", "\xff\xfe\x00", strings.Repeat("z", 200)}
	full, _ := decode.New(4096, api.MaxList)
	full.Decode(unhex("40 01 61 01 62 40 06 63 6f 6f 6b 69 65 01 61"))
	none, _ := decode.New(0, api.MaxList)
	before := slices.Collect(full.Table().All())
	for range 500 {
		var l []decode.Line
		for range r.Intn(6) {
			l = append(l, line(names[r.Intn(len(names))], values[r.Intn(len(values))], r.Intn(3) == 0))
		}
		b, e := Encode(l)
		if e != api.OK || !Plain(b) {
			t.Fatalf("%v: %x, %d", l, b, e)
		}
		for _, d := range []*decode.Decoder{full, none} {
			if got, e := d.Decode(b); !slices.Equal(got, l) || e != api.OK {
				t.Fatalf("%x: %v, %d", b, got, e)
			}
		}
		// a block that is cut short is one of fewer lines, or none
		if len(b) > 0 {
			cut := b[:r.Intn(len(b))]
			_, e := none.Copy().Decode(cut)
			if Plain(cut) != (e == api.OK) {
				t.Fatalf("Plain(%x): %v, %d", cut, Plain(cut), e)
			}
		}
	}
	if got := slices.Collect(full.Table().All()); !slices.Equal(got, before) || full.Table().Limit() != 4096 {
		t.Errorf("the table moved: %v", got)
	}
}
