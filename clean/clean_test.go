package clean

import (
	"slices"
	"strings"
	"testing"

	"squint/api"
	"squint/decode"
	"squint/static"
)

func field(name, value string) static.Field { return static.Field{Name: name, Value: value} }

func line(name, value string, never bool) decode.Line {
	return decode.Line{Field: field(name, value), Never: never}
}

// P21.1
func TestName(t *testing.T) {
	for c := range 256 {
		want := c >= '0' && c <= '9' || c >= 'a' && c <= 'z' || c == 0x60 || c < 128 && strings.ContainsRune("!#$%&'*+-.^_|~", rune(c))
		for _, s := range []string{string([]byte{byte(c)}), "a" + string([]byte{byte(c)}), string([]byte{byte(c)}) + "z"} {
			if got := Name(s); got != want {
				t.Errorf("Name(%q): %v", s, got)
			}
		}
	}
	for s, want := range map[string]bool{
		"": false, "a": true, "x-y_z": true, "Host": false, "hosT": false, ":status": false, "a b": false, "a\n": false, "ä": false, "\xff": false,
		strings.Repeat("a", api.MaxText): true, strings.Repeat("a", api.MaxText+1): false,
	} {
		if got := Name(s); got != want {
			t.Errorf("Name(%q): %v", s[:min(len(s), 9)], got)
		}
	}
}

// P21.1
func TestValue(t *testing.T) {
	for c := range 256 {
		b := string([]byte{byte(c)})
		never := c == 0 || c == 10 || c == 13
		if got := Value("a" + b + "z"); got == never {
			t.Errorf("Value with %x within: %v", c, got)
		}
		edge := never || c == 32 || c == 9
		if Value(b) == edge || Value(b+"z") == edge || Value("a"+b) == edge {
			t.Errorf("Value with %x at an end: %v, %v, %v", c, Value(b), Value(b+"z"), Value("a"+b))
		}
	}
	for s, want := range map[string]bool{
		"": true, "a b\tc": true, " ": false, "\t": false, " a": false, "a\t": false, "\xff\xfe": true, "a\x00": false,
		strings.Repeat("a", api.MaxText): true, strings.Repeat("a", api.MaxText+1): false,
	} {
		if got := Value(s); got != want {
			t.Errorf("Value(%q): %v", s[:min(len(s), 9)], got)
		}
	}
}

// P21.1
func TestHopAndSensitive(t *testing.T) {
	for _, c := range []struct {
		f    static.Field
		want bool
	}{
		{field("connection", ""), true}, {field("keep-alive", "x"), true}, {field("proxy-connection", "x"), true}, {field("transfer-encoding", "chunked"), true}, {field("upgrade", "h2c"), true},
		{field("te", "trailers"), false}, {field("te", "gzip"), true}, {field("te", ""), true}, {field("te", "Trailers"), true}, {field("te", "trailers, gzip"), true},
		{field("Connection", "x"), false}, {field("", ""), false}, {field("connections", ""), false}, {field("trailer", "x"), false}, {field("host", "connection"), false},
	} {
		if got := Hop(c.f); got != c.want {
			t.Errorf("Hop(%v): %v", c.f, got)
		}
	}
	for name, want := range map[string]bool{
		"authorization": true, "proxy-authorization": true, "cookie": true, "set-cookie": true, "": false, "Cookie": false, "cookies": false, "authorizatio": false, "proxy-authenticate": false,
	} {
		if got := Sensitive(name); got != want {
			t.Errorf("Sensitive(%q): %v", name, got)
		}
	}
}

// P21.1
func TestLower(t *testing.T) {
	all := make([]byte, 256)
	want := make([]byte, 256)
	for i := range all {
		all[i], want[i] = byte(i), byte(i)
		if i >= 'A' && i <= 'Z' {
			want[i] += 32
		}
	}
	if got := Lower(string(all)); got != string(want) {
		t.Errorf("Lower: %q", got)
	}
	for s, want := range map[string]string{"": "", "Host": "host", "ÄÖ": "ÄÖ", "\u212a": "\u212a", "@[": "@["} {
		if got := Lower(s); got != want {
			t.Errorf("Lower(%q): %q", s, got)
		}
	}
}

// P21.2
func TestFields(t *testing.T) {
	got, e := Fields([]static.Field{
		field("accept", "x"), field("connection", "close"), field("cookie", "a"), field("te", "trailers"), field("te", "gzip"), field("authorization", "b"),
		field("set-cookie", ""), field("proxy-authorization", "c"), field("accept", "y"), field("upgrade", "h2c"),
	})
	want := []decode.Line{
		line("accept", "x", false), line("cookie", "a", true), line("te", "trailers", false), line("authorization", "b", true),
		line("set-cookie", "", true), line("proxy-authorization", "c", true), line("accept", "y", false),
	}
	if !slices.Equal(got, want) || e != api.OK || Check(got) != api.OK {
		t.Errorf("Fields: %v, %d", got, e)
	}
	for _, c := range []struct {
		l []static.Field
		e api.Errno
	}{
		{nil, api.OK}, {[]static.Field{field("connection", "close")}, api.OK},
		{[]static.Field{field("Host", "a")}, api.ErrName}, {[]static.Field{field("", "a")}, api.ErrName}, {[]static.Field{field(":path", "/")}, api.ErrName},
		{[]static.Field{field("host", " a")}, api.ErrValue}, {[]static.Field{field("Host", " a")}, api.ErrName}, {[]static.Field{field("connection", "a\n")}, api.ErrValue},
		{[]static.Field{field("host", "a\x00"), field("Host", "")}, api.ErrValue}, {[]static.Field{field("a", ""), field("A", ""), field("b", " ")}, api.ErrName},
	} {
		if got, e := Fields(c.l); len(got) != 0 || e != c.e {
			t.Errorf("Fields(%v): %v, %d", c.l, got, e)
		}
	}
}

// P21.3
func TestCheck(t *testing.T) {
	for _, c := range []struct {
		l []decode.Line
		e api.Errno
	}{
		{nil, api.OK}, {[]decode.Line{line("a", "b", false), line("cookie", "x", false), line("b", "", true)}, api.OK}, {[]decode.Line{line("te", "trailers", false)}, api.OK},
		{[]decode.Line{line("A", "b", false)}, api.ErrName}, {[]decode.Line{line("", "b", false)}, api.ErrName}, {[]decode.Line{line(":status", "200", false)}, api.ErrName},
		{[]decode.Line{line("connection", "close", false)}, api.ErrName}, {[]decode.Line{line("te", "gzip", false)}, api.ErrName}, {[]decode.Line{line("connection", " ", false)}, api.ErrName},
		{[]decode.Line{line("a", "b ", false)}, api.ErrValue}, {[]decode.Line{line("a", "b\r", false), line("A", "", false)}, api.ErrValue}, {[]decode.Line{line("a", "", false), line("upgrade", "", false), line("b", "\n", false)}, api.ErrName},
	} {
		if e := Check(c.l); e != c.e {
			t.Errorf("Check(%v): %d", c.l, e)
		}
	}
}
