package request

import (
	"bytes"
	"encoding/hex"
	"math"
	"slices"
	"strings"
	"testing"

	"squint/api"
	"squint/decode"
	"squint/static"
)

func field(name, value string) static.Field { return static.Field{Name: name, Value: value} }

func line(name, value string) decode.Line { return decode.Line{Field: field(name, value)} }

func never(name, value string) decode.Line {
	return decode.Line{Field: field(name, value), Never: true}
}

func get() Request { return Request{Method: "GET", Scheme: "http", Path: "/"} }

// same tells whether both are one but for their bodies.
func same(x, y Request) bool {
	return x.Method == y.Method && x.Scheme == y.Scheme && x.Path == y.Path && x.Authority == y.Authority && slices.Equal(x.Fields, y.Fields)
}

// P22.1
func TestLines(t *testing.T) {
	r := get()
	l, e := r.Lines()
	if want := []decode.Line{line(":method", "GET"), line(":scheme", "http"), line(":path", "/")}; !slices.Equal(l, want) || e != api.OK {
		t.Errorf("Lines: %v, %d", l, e)
	}
	r = Request{"PROPFIND-X", "https", "/a?b=\xff", "example.com:80", []static.Field{field("cookie", "a"), field("connection", "close"), field("x", "y")}, []byte("body")}
	l, e = r.Lines()
	want := []decode.Line{line(":method", "PROPFIND-X"), line(":scheme", "https"), line(":path", "/a?b=\xff"), line(":authority", "example.com:80"), never("cookie", "a"), line("x", "y")}
	if !slices.Equal(l, want) || e != api.OK {
		t.Errorf("Lines: %v, %d", l, e)
	}
	back, e := Back(l)
	r.Fields = []static.Field{field("cookie", "a"), field("x", "y")}
	if !same(back, r) || len(back.Body) != 0 || e != api.OK {
		t.Errorf("Back: %v, %d", back, e)
	}
}

// P22.1
func TestLinesRefuse(t *testing.T) {
	most, more := strings.Repeat("A", api.MaxText), strings.Repeat("A", api.MaxText+1)
	for i, c := range []struct {
		change func(r *Request)
		e      api.Errno
	}{
		{func(r *Request) { r.Method = "" }, api.ErrValue},
		{func(r *Request) { r.Method = "get" }, api.ErrValue},
		{func(r *Request) { r.Method = "GET " }, api.ErrValue},
		{func(r *Request) { r.Method = "GET1" }, api.ErrValue},
		{func(r *Request) { r.Method = "G@T" }, api.ErrValue},
		{func(r *Request) { r.Method = "G[T" }, api.ErrValue},
		{func(r *Request) { r.Method = "-" }, api.OK},
		{func(r *Request) { r.Method = "AZ" }, api.OK},
		{func(r *Request) { r.Method = most }, api.OK},
		{func(r *Request) { r.Method = more }, api.ErrValue},
		{func(r *Request) { r.Scheme = "" }, api.ErrValue},
		{func(r *Request) { r.Scheme = "HTTP" }, api.ErrValue},
		{func(r *Request) { r.Scheme = "ftp" }, api.ErrValue},
		{func(r *Request) { r.Scheme = "https" }, api.OK},
		{func(r *Request) { r.Path = "" }, api.ErrValue},
		{func(r *Request) { r.Path = "*" }, api.ErrValue},
		{func(r *Request) { r.Path = "/ " }, api.ErrValue},
		{func(r *Request) { r.Path = "/\x7f" }, api.ErrValue},
		{func(r *Request) { r.Path = "/\x00" }, api.ErrValue},
		{func(r *Request) { r.Path = "/!~\x80\xff" }, api.OK},
		{func(r *Request) { r.Path = "/" + most[1:] }, api.OK},
		{func(r *Request) { r.Path = "/" + most }, api.ErrValue},
		{func(r *Request) { r.Authority = " " }, api.ErrValue},
		{func(r *Request) { r.Authority = "a\n" }, api.ErrValue},
		{func(r *Request) { r.Authority = "a\x7f" }, api.ErrValue},
		{func(r *Request) { r.Authority = "!\xff" }, api.OK},
		{func(r *Request) { r.Authority = most }, api.OK},
		{func(r *Request) { r.Authority = more }, api.ErrValue},
		{func(r *Request) { r.Fields = []static.Field{field("A", "")} }, api.ErrName},
		{func(r *Request) { r.Fields = []static.Field{field("a", " ")} }, api.ErrValue},
		{func(r *Request) { r.Fields = []static.Field{field(":path", "/")} }, api.ErrName},
		{func(r *Request) { r.Authority, r.Fields = " ", []static.Field{field("A", "")} }, api.ErrValue},
	} {
		r := get()
		c.change(&r)
		l, e := r.Lines()
		if e != c.e || (e == api.OK) != (len(l) > 0) {
			t.Errorf("change %d: %d lines, %d", i, len(l), e)
		}
		b, e := r.Block(math.MaxInt)
		if e != c.e || (e == api.OK) != (len(b) > 0) {
			t.Errorf("change %d: %d bytes, %d", i, len(b), e)
		}
		if c.e != api.OK {
			if _, e := r.Block(-1); e != c.e {
				t.Errorf("change %d: the error isn't first: %d", i, e)
			}
		}
	}
}

// P22.1
func TestBlock(t *testing.T) {
	for _, c := range []struct {
		r    Request
		want string
	}{
		{get(), "828684"},
		{Request{Method: "GET", Scheme: "http", Path: "/", Authority: "www.example.com"}, "828684018cf1e3c2e5f23a6ba0ab90f4ff"},
		{Request{Method: "POST", Scheme: "https", Path: "/", Fields: []static.Field{field("cookie", "a"), field("te", "gzip")}, Body: []byte("x")}, "8387841f110161"},
	} {
		want, _ := hex.DecodeString(c.want)
		for _, most := range []int{len(want), len(want) + 1, math.MaxInt} {
			if b, e := c.r.Block(most); !bytes.Equal(b, want) || e != api.OK {
				t.Errorf("Block(%d): %x, %d", most, b, e)
			}
		}
		for _, most := range []int{len(want) - 1, 0, -1, math.MinInt} {
			if b, e := c.r.Block(most); len(b) != 0 || e != api.ErrBig {
				t.Errorf("Block(%d): %x, %d", most, b, e)
			}
		}
	}
}

// P22.1
func TestSize(t *testing.T) {
	if n := (Request{}).Size(); n != 0 {
		t.Errorf("Size of nothing: %d", n)
	}
	r := Request{"GET", "http", "/abcd", "example", []static.Field{field("a", "bc"), field("connection", "")}, []byte("12345678")}
	if n := r.Size(); n != 3+4+5+7+3+10+8 {
		t.Errorf("Size: %d", n)
	}
}

// P22.2
func TestResponse(t *testing.T) {
	h, e := Response([]decode.Line{line(":status", "200"), line("a", "b"), never("cookie", "c"), line("a", "")})
	if want := (Head{200, []static.Field{field("a", "b"), field("cookie", "c"), field("a", "")}}); !h.Equal(want) || e != api.OK {
		t.Errorf("Response: %v, %d", h, e)
	}
	for _, c := range []struct {
		l      []decode.Line
		status int
		e      api.Errno
	}{
		{[]decode.Line{line(":status", "100")}, 100, api.OK},
		{[]decode.Line{line(":status", "599")}, 599, api.OK},
		{[]decode.Line{never(":status", "204")}, 204, api.OK},
		{nil, 0, api.ErrOrder},
		{[]decode.Line{line("a", "b")}, 0, api.ErrOrder},
		{[]decode.Line{line("a", "b"), line(":status", "200")}, 0, api.ErrOrder},
		{[]decode.Line{line(":path", "200")}, 0, api.ErrOrder},
		{[]decode.Line{line(":status", "200"), line(":status", "200")}, 0, api.ErrOrder},
		{[]decode.Line{line(":status", "x"), line("A", ""), line(":x", "")}, 0, api.ErrOrder},
		{[]decode.Line{line(":status", "x"), line("A", "")}, 0, api.ErrValue},
		{[]decode.Line{line(":status", "99")}, 0, api.ErrValue},
		{[]decode.Line{line(":status", "099")}, 0, api.ErrValue},
		{[]decode.Line{line(":status", "600")}, 0, api.ErrValue},
		{[]decode.Line{line(":status", "0200")}, 0, api.ErrValue},
		{[]decode.Line{line(":status", "2000")}, 0, api.ErrValue},
		{[]decode.Line{line(":status", "+20")}, 0, api.ErrValue},
		{[]decode.Line{line(":status", "20 ")}, 0, api.ErrValue},
		{[]decode.Line{line(":status", "")}, 0, api.ErrValue},
		{[]decode.Line{line(":status", "2/0")}, 0, api.ErrValue},
		{[]decode.Line{line(":status", "2:0")}, 0, api.ErrValue},
		{[]decode.Line{line(":status", strings.Repeat("9", 100))}, 0, api.ErrValue},
		{[]decode.Line{line(":status", "200"), line("A", "")}, 0, api.ErrName},
		{[]decode.Line{line(":status", "200"), line("connection", "close")}, 0, api.ErrName},
		{[]decode.Line{line(":status", "200"), line("a", " ")}, 0, api.ErrValue},
	} {
		h, e := Response(c.l)
		if h.Status != c.status || len(h.Fields) != 0 || e != c.e {
			t.Errorf("Response(%v): %v, %d", c.l, h, e)
		}
	}
}

// P22.2
func TestTrailers(t *testing.T) {
	if l, e := Trailers([]decode.Line{line("a", "b"), never("c", "d")}); !slices.Equal(l, []static.Field{field("a", "b"), field("c", "d")}) || e != api.OK {
		t.Errorf("Trailers: %v, %d", l, e)
	}
	for _, c := range []struct {
		l []decode.Line
		e api.Errno
	}{
		{nil, api.OK}, {[]decode.Line{line(":status", "200")}, api.ErrOrder}, {[]decode.Line{line("A", ""), line(":", "")}, api.ErrOrder},
		{[]decode.Line{line("A", "")}, api.ErrName}, {[]decode.Line{line("a", "\n")}, api.ErrValue}, {[]decode.Line{line("upgrade", "")}, api.ErrName},
	} {
		if l, e := Trailers(c.l); len(l) != 0 || e != c.e {
			t.Errorf("Trailers(%v): %v, %d", c.l, l, e)
		}
	}
}

// P22.2
func TestHead(t *testing.T) {
	for status, want := range map[int]bool{100: true, 199: true, 200: false, 599: false, 0: true, -5: true} {
		if got := (Head{Status: status}).Interim(); got != want {
			t.Errorf("Interim of %d: %v", status, got)
		}
	}
	h := Head{200, []static.Field{field("a", "b")}}
	if !h.Equal(Head{200, []static.Field{field("a", "b")}}) || h.Equal(Head{201, h.Fields}) || h.Equal(Head{200, nil}) || h.Equal(Head{200, []static.Field{field("a", "c")}}) {
		t.Errorf("Equal")
	}
	if !(Head{}).Equal(Head{Fields: []static.Field{}}) {
		t.Errorf("nil and empty are not one")
	}
}

// P22.3
func TestBack(t *testing.T) {
	m, s, p, a := line(":method", "GET"), line(":scheme", "http"), line(":path", "/"), line(":authority", "x")
	for i, c := range []struct {
		l    []decode.Line
		want Request
		e    api.Errno
	}{
		{[]decode.Line{m, s, p}, get(), api.OK},
		{[]decode.Line{m, s, p, a}, Request{Method: "GET", Scheme: "http", Path: "/", Authority: "x"}, api.OK},
		{[]decode.Line{m, s, p, line("a", "b"), never("cookie", "c")}, Request{Method: "GET", Scheme: "http", Path: "/", Fields: []static.Field{field("a", "b"), field("cookie", "c")}}, api.OK},
		{nil, Request{}, api.ErrOrder},
		{[]decode.Line{m, s}, Request{}, api.ErrOrder},
		{[]decode.Line{s, m, p}, Request{}, api.ErrOrder},
		{[]decode.Line{m, p, s}, Request{}, api.ErrOrder},
		{[]decode.Line{m, s, a, p}, Request{}, api.ErrOrder},
		{[]decode.Line{m, s, p, line(":authority", "")}, Request{}, api.ErrOrder},
		{[]decode.Line{m, s, p, a, a}, Request{}, api.ErrOrder},
		{[]decode.Line{m, s, p, line("x", "y"), a}, Request{}, api.ErrOrder},
		{[]decode.Line{m, s, p, line(":status", "200")}, Request{}, api.ErrOrder},
		{[]decode.Line{line(":method", "get"), s, p, a, line(":x", "")}, Request{}, api.ErrOrder},
		{[]decode.Line{line(":method", "get"), s, p, line("A", "")}, Request{}, api.ErrValue},
		{[]decode.Line{m, line(":scheme", "ftp"), p}, Request{}, api.ErrValue},
		{[]decode.Line{m, s, line(":path", "x")}, Request{}, api.ErrValue},
		{[]decode.Line{m, s, p, line(":authority", " ")}, Request{}, api.ErrValue},
		{[]decode.Line{m, s, p, line("A", "")}, Request{}, api.ErrName},
		{[]decode.Line{m, s, p, line("connection", "close")}, Request{}, api.ErrName},
		{[]decode.Line{m, s, p, line("a", " ")}, Request{}, api.ErrValue},
		{[]decode.Line{m, s, p, line("cookie", "a"), line("a", " ")}, Request{}, api.ErrValue},
		{[]decode.Line{m, s, p, line("cookie", "a")}, Request{}, api.ErrOrder},
		{[]decode.Line{m, s, p, never("a", "b")}, Request{}, api.ErrOrder},
		{[]decode.Line{never(":method", "GET"), s, p}, Request{}, api.ErrOrder},
		{[]decode.Line{m, s, p, never(":authority", "x")}, Request{}, api.ErrOrder},
	} {
		got, e := Back(c.l)
		if !same(got, c.want) || len(got.Body) != 0 || e != c.e {
			t.Errorf("Back %d: %v, %d", i, got, e)
		}
		if e == api.OK {
			if l, f := got.Lines(); !slices.Equal(l, c.l) || f != api.OK {
				t.Errorf("Lines of Back %d: %v, %d", i, l, f)
			}
		}
	}
}
