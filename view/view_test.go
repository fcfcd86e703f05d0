package view

import (
	"bytes"
	"math"
	"math/rand"
	"slices"
	"strings"
	"testing"

	"squint/api"
	"squint/block"
	"squint/cell"
	"squint/decode"
	"squint/encode"
	"squint/endpoint"
	"squint/frame"
	"squint/outbound"
	"squint/request"
	"squint/static"
)

var config = outbound.Config{Tenants: 3, Cell: 64, Bytes: 20000, Items: 50, Streams: 10}

func get(path string, body int) request.Request {
	return request.Request{Method: "GET", Scheme: "http", Path: path, Body: []byte(strings.Repeat("b", body))}
}

func same(x, y Got) bool {
	a, b := x.Request, y.Request
	return x.ID == y.ID && x.Whole == y.Whole && x.Reset == y.Reset && a.Method == b.Method && a.Scheme == b.Scheme && a.Path == b.Path && a.Authority == b.Authority &&
		slices.Equal(a.Fields, b.Fields) && bytes.Equal(a.Body, b.Body)
}

func row(l ...frame.Frame) []byte {
	var out []byte
	for _, f := range l {
		b, _ := f.Bytes()
		out = append(out, b...)
	}
	return out
}

// run lets an endpoint's ticks go by.
func run(x *endpoint.Endpoint, ticks int) []endpoint.Out {
	var out []endpoint.Out
	for range ticks {
		o, _ := x.Tick()
		out = append(out, o)
	}
	return out
}

// sent is one Out with the preface, and frames behind it.
func sent(l ...frame.Frame) []endpoint.Out {
	return []endpoint.Out{{Control: endpoint.Preface(), Slot: row(l...)}}
}

func head(id, flags int, r request.Request) frame.Frame {
	b, _ := r.Block(1000)
	return frame.Frame{Type: frame.Headers, Flags: flags, Stream: id, Payload: b}
}

func data(id, flags int, text string) frame.Frame {
	return frame.Frame{Type: frame.Data, Flags: flags, Stream: id, Payload: []byte(text)}
}

func reset(id int) frame.Frame {
	return frame.Frame{Type: frame.Reset, Stream: id, Payload: make([]byte, 4)}
}

// P26.1
func TestBytesAndPlaces(t *testing.T) {
	l := []endpoint.Out{
		{Tick: 3, Control: []byte("abc"), Slot: []byte("de")}, {Tick: 4, Slot: []byte("f")}, {Tick: 5, Control: []byte("g")}, {Tick: 6, Slot: []byte("hijk")}, {Tick: 9, Control: []byte("l"), Slot: []byte("m")}, {},
	}
	if got := Bytes(l); string(got) != "abcdefghijklm" || Sum(l) != 13 {
		t.Errorf("Bytes: %q, Sum: %d", got, Sum(l))
	}
	if got := Bytes(nil); len(got) != 0 || Sum(nil) != 0 {
		t.Errorf("Bytes of nothing: %q", got)
	}
	for _, c := range []struct {
		tenant, tenants int
		want            []Place
	}{
		{0, 3, []Place{{3, 3, 2}, {6, 7, 4}, {9, 12, 1}}}, {1, 3, []Place{{4, 5, 1}}}, {2, 3, nil},
		{0, 1, []Place{{3, 3, 2}, {4, 5, 1}, {6, 7, 4}, {9, 12, 1}}}, {9, 64, []Place{{9, 12, 1}}},
		{3, 3, nil}, {-1, 3, nil}, {0, 0, nil}, {0, 65, nil}, {0, -1, nil}, {math.MaxInt, 3, nil}, {0, math.MinInt, nil}, {0, math.MaxInt, nil},
	} {
		if got := Places(l, c.tenant, c.tenants); !slices.Equal(got, c.want) {
			t.Errorf("Places(%d, %d): %v", c.tenant, c.tenants, got)
		}
	}
	far := []endpoint.Out{{Tick: 65, Slot: []byte("a")}, {Tick: -1, Slot: []byte("b")}, {Tick: 64, Slot: []byte("c")}}
	if got := Places(far, 0, 65); len(got) != 0 {
		t.Errorf("Places of 65 tenants: %v", got)
	}
	if got := Places(far, 0, 64); !slices.Equal(got, []Place{{64, 2, 1}}) {
		t.Errorf("Places of 64 tenants: %v", got)
	}
	if got := Places(far, 2, 3); !slices.Equal(got, []Place{{65, 0, 1}, {-1, 1, 1}}) {
		t.Errorf("Places below 0: %v", got)
	}
	b := Bytes(l)
	b[0] = 'x'
	if string(l[0].Control) != "abc" {
		t.Errorf("Bytes shares")
	}
}

// P26.1
func TestSame(t *testing.T) {
	d := endpoint.Delivery{Tick: 1, Kind: 2, Fields: []static.Field{{Name: "a"}}, Text: []byte("x")}
	e := d
	e.Text = []byte("y")
	for _, c := range []struct {
		a, b []endpoint.Delivery
		want bool
	}{
		{nil, nil, true}, {nil, []endpoint.Delivery{}, true}, {[]endpoint.Delivery{d}, []endpoint.Delivery{d}, true}, {[]endpoint.Delivery{d}, []endpoint.Delivery{e}, false},
		{[]endpoint.Delivery{d, e}, []endpoint.Delivery{d, e}, true}, {[]endpoint.Delivery{d, e}, []endpoint.Delivery{e, d}, false}, {[]endpoint.Delivery{d}, nil, false}, {[]endpoint.Delivery{d}, []endpoint.Delivery{d, d}, false},
	} {
		if Same(c.a, c.b) != c.want {
			t.Errorf("Same(%v, %v)", c.a, c.b)
		}
	}
}

// P26.2: an endpoint without requests: as many places as ticks, all alike.
func TestNoRequests(t *testing.T) {
	x, _ := endpoint.New(config)
	l := run(x, 30)
	if got, e := Requests(l); len(got) != 0 || e != api.OK {
		t.Errorf("Requests: %v, %d", got, e)
	}
	n := 0
	for tenant := range 3 {
		for _, p := range Places(l, tenant, 3) {
			if p.Len != cell.Len(64) || p.Tick%3 != tenant {
				t.Errorf("%v", p)
			}
			n++
		}
	}
	if n != 30 {
		t.Errorf("%d places", n)
	}
}

// P26.2: what an endpoint sent is read.
func TestRequestsOfAnEndpoint(t *testing.T) {
	x, _ := endpoint.New(config)
	a := get("/a", 100)
	a.Fields = []static.Field{{Name: "cookie", Value: "a"}, {Name: "connection", Value: "close"}, {Name: "x", Value: "y"}}
	x.Submit(0, a)
	x.Submit(1, get("/b", 0))
	x.Submit(0, get("/c", 10))
	x.Submit(2, get("/d", 500))
	x.Submit(1, get("/e", 5))
	l := run(x, 3)
	x.Feed(row(frame.Frame{Type: frame.Settings}, frame.Frame{Type: frame.Ping, Payload: make([]byte, 8)}, data(3, 0, "x")))
	l = append(l, run(x, 15)...)
	got, e := Requests(l)
	a.Fields = []static.Field{{Name: "cookie", Value: "a"}, {Name: "x", Value: "y"}}
	want := []Got{{ID: 1, Request: a, Whole: true}, {ID: 3, Request: get("/b", 0), Whole: true, Reset: true}, {ID: 5, Request: get("/d", 315)}, {ID: 15, Request: get("/e", 5), Whole: true}, {ID: 19, Request: get("/c", 10), Whole: true}}
	if !slices.EqualFunc(got, want, same) || e != api.OK {
		t.Fatalf("Requests: %v, %d", got, e)
	}
	for tenant, ids := range [][]int{{1, 19}, {3, 15}, {5}} {
		var of []int
		for _, g := range Of(got, tenant, 3) {
			of = append(of, g.ID)
		}
		if !slices.Equal(of, ids) {
			t.Errorf("Of(%d): %v", tenant, of)
		}
	}
	// the row may be cut anywhere between the outs' bytes
	whole := Bytes(l)
	if got, e := Requests([]endpoint.Out{{Slot: whole[:7]}, {Control: whole[7:99], Slot: whole[99:]}}); !slices.EqualFunc(got, want, same) || e != api.OK {
		t.Errorf("cut otherwise: %v, %d", got, e)
	}
	for _, n := range []int{1, 8, len(whole) - 1} {
		if got, e := Requests([]endpoint.Out{{Slot: whole[:n]}}); len(got) != 0 || e != api.ErrForm {
			t.Errorf("%d bytes alone: %v, %d", n, got, e)
		}
	}
}

// P26.2: by hand.
func TestRequests(t *testing.T) {
	r := get("/", 0)
	with := func(body string) request.Request {
		r := get("/", 0)
		r.Body = []byte(body)
		return r
	}
	for i, c := range []struct {
		l    []frame.Frame
		want []Got
	}{
		{nil, nil},
		{[]frame.Frame{head(1, 4, r)}, []Got{{ID: 1, Request: r}}},
		{[]frame.Frame{head(1, 5, r)}, []Got{{ID: 1, Request: r, Whole: true}}},
		{[]frame.Frame{head(5, 4, r), head(3, 5, r), data(5, 0, "ab"), data(5, 8, "\x01cd\x00"), data(5, 1, "e")}, []Got{{ID: 5, Request: with("abcde"), Whole: true}, {ID: 3, Request: r, Whole: true}}},
		{[]frame.Frame{head(1, 4, r), data(1, 0, "ab"), reset(1)}, []Got{{ID: 1, Request: with("ab"), Reset: true}}},
		{[]frame.Frame{head(1, 5, r), reset(1)}, []Got{{ID: 1, Request: r, Whole: true, Reset: true}}},
		{[]frame.Frame{head(2, 4, r), data(2, 1, "")}, []Got{{ID: 2, Request: r, Whole: true}}},
		{[]frame.Frame{{Type: 250, Payload: []byte("x")}, {Type: frame.Update, Stream: 9, Payload: []byte{0, 0, 0, 1}}, {Type: frame.Goaway, Payload: make([]byte, 8)}, {Type: frame.Settings, Flags: 1}, {Type: frame.Continuation, Stream: 9}}, nil},
		{[]frame.Frame{head(1, 5, r), reset(1), {Type: frame.Update, Stream: 1, Payload: []byte{0, 0, 0, 1}}}, []Got{{ID: 1, Request: r, Whole: true, Reset: true}}},
	} {
		if got, e := Requests(sent(c.l...)); !slices.EqualFunc(got, c.want, same) || e != api.OK {
			t.Errorf("row %d: %v, %d", i, got, e)
		}
	}
}

// P26.2: ErrForm.
func TestRequestsRefuse(t *testing.T) {
	r := get("/", 0)
	lines := func(l ...decode.Line) frame.Frame {
		b, _ := encode.Encode(l)
		return frame.Frame{Type: frame.Headers, Flags: 5, Stream: 1, Payload: b}
	}
	bytesOf := func(b ...byte) frame.Frame {
		return frame.Frame{Type: frame.Headers, Flags: 5, Stream: 1, Payload: b}
	}
	split, _ := block.Split(1, []byte{0x82, 0x86, 0x84}, true, 2)
	for i, l := range [][]frame.Frame{
		{data(1, 0, "")}, {data(1, 1, "x"), head(1, 5, r)}, {reset(1)}, {head(1, 4, r), reset(3)}, {head(1, 4, r), data(3, 0, "")},
		{head(1, 5, r), data(1, 0, "")}, {head(1, 4, r), data(1, 1, ""), data(1, 1, "")},
		{head(1, 4, r), reset(1), data(1, 0, "")}, {head(1, 4, r), reset(1), reset(1)}, {head(1, 4, r), reset(1), head(1, 4, r)}, {head(1, 4, r), head(1, 5, r)},
		{head(1, 1, r)}, split, {lines()}, {lines(decode.Line{Field: static.Field{Name: ":status", Value: "200"}})},
		{bytesOf(0x82, 0x86, 0x84, 0xbe)}, {bytesOf(0x82, 0x86)}, {bytesOf(0x21, 0x82, 0x86, 0x84)}, {bytesOf(0x82, 0x86, 0x84, 0x40, 1, 'a', 1, 'b', 0xbe)},
		{{Type: frame.Ping}}, {{Type: frame.Promise, Stream: 1}}, {{Type: frame.Priority, Stream: 1}}, {{Type: frame.Update, Payload: make([]byte, 4)}}, {{Type: frame.Settings, Stream: 1}},
		{{Type: 250, Payload: make([]byte, api.MaxFrame+1)}},
	} {
		if got, e := Requests(sent(l...)); len(got) != 0 || e != api.ErrForm {
			t.Errorf("row %d: %v, %d", i, got, e)
		}
		if got, e := Requests(sent(append([]frame.Frame{head(7, 5, r)}, l...)...)); len(got) != 0 || e != api.ErrForm {
			t.Errorf("row %d behind a request: %v, %d", i, got, e)
		}
	}
	preface := endpoint.Preface()
	other := bytes.Clone(preface)
	other[len(other)-1] = 1
	for i, b := range [][]byte{nil, preface[1:], preface[:len(preface)-1], other, row(head(1, 5, r)), append(bytes.Clone(preface), 0), append(bytes.Clone(preface), 0, 0, 1, 0, 0, 0, 0, 0, 0)} {
		if got, e := Requests([]endpoint.Out{{Slot: b}}); len(got) != 0 || e != api.ErrForm {
			t.Errorf("bytes %d: %v, %d", i, got, e)
		}
	}
	if got, e := Requests(sent(frame.Frame{Type: 250, Payload: make([]byte, api.MaxFrame)})); len(got) != 0 || e != api.OK {
		t.Errorf("just MaxFrame: %v, %d", got, e)
	}
}

// P26.2
func TestOf(t *testing.T) {
	l := []Got{{ID: 1}, {ID: 7}, {ID: 3, Request: request.Request{Fields: []static.Field{{Name: "a"}}, Body: []byte("b")}}, {ID: 2}, {ID: -1}, {ID: 0}, {ID: 9, Whole: true}, {ID: api.MaxStream + 2}}
	for _, c := range []struct {
		tenant, tenants int
		ids             []int
	}{
		{0, 3, []int{1, 7}}, {1, 3, []int{3, 9}}, {2, 3, nil}, {0, 1, []int{1, 7, 3, 9}}, {3, 3, nil}, {-1, 3, nil}, {0, 0, nil}, {0, 65, nil}, {math.MaxInt, math.MaxInt, nil},
	} {
		var ids []int
		for _, g := range Of(l, c.tenant, c.tenants) {
			ids = append(ids, g.ID)
		}
		if !slices.Equal(ids, c.ids) {
			t.Errorf("Of(%d, %d): %v", c.tenant, c.tenants, ids)
		}
	}
	got := Of(l, 1, 3)
	if !same(got[0], l[2]) || !same(got[1], l[6]) {
		t.Errorf("Of: %v", got)
	}
	got[0].Request.Fields[0].Name, got[0].Request.Body[0] = "z", 'z'
	if l[2].Request.Fields[0].Name != "a" || string(l[2].Request.Body) != "b" {
		t.Errorf("Of shares")
	}
}

// P26.1, P26.2: what the other side reads is what was submitted; and where slots stand hangs on control alone, not on requests.
func TestByChance(t *testing.T) {
	r := rand.New(rand.NewSource(1))
	for range 50 {
		x, _ := endpoint.New(config)
		y, _ := endpoint.New(config)
		var want [3][]request.Request
		var l, quiet []endpoint.Out
		for range 100 {
			if tenant := r.Intn(3); r.Intn(3) == 0 {
				req := get("/"+strings.Repeat("p", r.Intn(20)), r.Intn(150))
				if _, e := x.Submit(tenant, req); e == api.OK {
					want[tenant] = append(want[tenant], req)
				}
			}
			l = append(l, run(x, 1)...)
			quiet = append(quiet, run(y, 1)...)
		}
		got, e := Requests(l)
		if e != api.OK {
			t.Fatalf("Requests: %d", e)
		}
		for tenant := range 3 {
			if a, b := Places(l, tenant, 3), Places(quiet, tenant, 3); !slices.Equal(a, b) {
				t.Fatalf("%v, not %v", a, b)
			}
			for i, g := range Of(got, tenant, 3) {
				w := want[tenant][i]
				if g.Request.Path != w.Path || g.Whole && !bytes.Equal(g.Request.Body, w.Body) || !bytes.HasPrefix(w.Body, g.Request.Body) {
					t.Fatalf("%v, not %v", g, w)
				}
			}
		}
	}
}
