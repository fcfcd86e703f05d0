package endpoint

import (
	"bytes"
	"math"
	"slices"
	"strings"
	"testing"

	"squint/api"
	"squint/cell"
	"squint/decode"
	"squint/encode"
	"squint/frame"
	"squint/outbound"
	"squint/payload"
	"squint/request"
	"squint/settings"
	"squint/static"
)

var config = outbound.Config{Tenants: 2, Cell: 64, Bytes: 20000, Items: 50, Streams: 10}

func endpoint(t *testing.T, c outbound.Config) *Endpoint {
	t.Helper()
	x, e := New(c)
	if e != api.OK {
		t.Fatalf("New(%v): %d", c, e)
	}
	return x
}

func row(l ...frame.Frame) []byte {
	var out []byte
	for _, f := range l {
		b, e := f.Bytes()
		if e != api.OK {
			panic(e)
		}
		out = append(out, b...)
	}
	return out
}

func block(l ...string) []byte {
	var lines []decode.Line
	for i := 0; i < len(l); i += 2 {
		lines = append(lines, decode.Line{Field: static.Field{Name: l[i], Value: l[i+1]}})
	}
	b, e := encode.Encode(lines)
	if e != api.OK {
		panic(e)
	}
	return b
}

func asks(pairs ...[2]int) frame.Frame {
	f, _ := settings.Frame(pairs)
	return f
}

func head(id int, end bool, l ...string) frame.Frame {
	f := frame.Frame{Type: frame.Headers, Flags: payload.EndHeaders, Stream: id, Payload: block(l...)}
	if end {
		f.Flags |= payload.EndStream
	}
	return f
}

func data(id int, end bool, text string) frame.Frame {
	f := frame.Frame{Type: frame.Data, Stream: id, Payload: []byte(text)}
	if end {
		f.Flags = payload.EndStream
	}
	return f
}

func reset(id int, code uint32) frame.Frame {
	return frame.Frame{Type: frame.Reset, Stream: id, Payload: []byte{byte(code >> 24), byte(code >> 16), byte(code >> 8), byte(code)}}
}

func update(id, n int) frame.Frame {
	return frame.Frame{Type: frame.Update, Stream: id, Payload: []byte{byte(n >> 24), byte(n >> 16), byte(n >> 8), byte(n)}}
}

func goaway(last, code int) frame.Frame {
	return frame.Frame{Type: frame.Goaway, Payload: []byte{byte(last >> 24), byte(last >> 16), byte(last >> 8), byte(last), 0, 0, 0, byte(code)}}
}

func ping(flags int) frame.Frame {
	return frame.Frame{Type: frame.Ping, Flags: flags, Payload: []byte("abcdefgh")}
}

func get(body int) request.Request {
	return request.Request{Method: "GET", Scheme: "http", Path: "/", Body: []byte(strings.Repeat("b", body))}
}

// submit submits requests of a tenant, with bodies of such lengths.
func submit(t *testing.T, x *Endpoint, tenant int, bodies ...int) {
	t.Helper()
	for _, n := range bodies {
		taken := x.Taken(tenant)
		if number, e := x.Submit(tenant, get(n)); number != taken || e != api.OK || x.Taken(tenant) != taken+1 {
			t.Fatalf("Submit(%d): %d, %d", tenant, number, e)
		}
	}
}

// ticks lets ticks go by, and tells what was done in each.
func ticks(t *testing.T, x *Endpoint, n int) []outbound.Did {
	t.Helper()
	var out []outbound.Did
	for range n {
		now := x.Now()
		o, e := x.Tick()
		if e != api.OK || o.Tick != now || x.Now() != now+1 {
			t.Fatalf("Tick: %v, %d", o, e)
		}
		out = append(out, o.Did)
	}
	return out
}

// feed feeds frames, and wants that to be told.
func feed(t *testing.T, x *Endpoint, want api.Errno, l ...frame.Frame) {
	t.Helper()
	if e := x.Feed(row(l...)); e != want {
		t.Fatalf("Feed: %d, not %d", e, want)
	}
}

// got holds what a tenant got against what it should have got, whose tenant and ticks are not looked at.
func got(t *testing.T, x *Endpoint, tenant int, want ...Delivery) {
	t.Helper()
	l := x.Deliveries(tenant)
	for i := range l {
		if l[i].Tenant != tenant {
			t.Errorf("of the tenant %d: %v", tenant, l[i])
		}
		l[i].Tick, l[i].Tenant = 0, 0
	}
	if !slices.EqualFunc(l, want, Delivery.Equal) {
		t.Errorf("the tenant %d got %v, not %v", tenant, l, want)
	}
}

func fields(l ...string) []static.Field {
	var out []static.Field
	for i := 0; i < len(l); i += 2 {
		out = append(out, static.Field{Name: l[i], Value: l[i+1]})
	}
	return out
}

func failed(number int, code api.Errno) Delivery {
	return Delivery{Number: number, Kind: Failed, Code: code}
}

func headed(number, status int, l ...string) Delivery {
	return Delivery{Number: number, Kind: Headed, Status: status, Fields: fields(l...)}
}

func part(number int, text string) Delivery {
	return Delivery{Number: number, Kind: Part, Text: []byte(text)}
}

func done(number int) Delivery { return Delivery{Number: number, Kind: Done} }

// opened is an endpoint whose tenant 0 has the stream 1, and whose tenant 1 has 3; their bodies, if they have any, are not sent yet.
func opened(t *testing.T, body int) *Endpoint {
	t.Helper()
	x := endpoint(t, config)
	submit(t, x, 0, body)
	submit(t, x, 1, body)
	ticks(t, x, 2)
	feed(t, x, api.OK, asks())
	return x
}

// control tells the frames of control that wait, as the next tick tells them.
func control(t *testing.T, x *Endpoint) []frame.Frame {
	t.Helper()
	o, _ := x.Tick()
	l, rest, e := frame.All(o.Control, api.MaxFrame)
	if e != api.OK || len(rest) > 0 {
		t.Fatalf("control: %x", o.Control)
	}
	return l
}

func same(a, b []frame.Frame) bool { return slices.EqualFunc(a, b, frame.Frame.Equal) }

var ack = frame.Frame{Type: frame.Settings, Flags: payload.Ack}

func TestNumbers(t *testing.T) {
	for i, kind := range []int{Headed, Interim, Part, Trailed, Done, Failed} {
		if kind != i+1 {
			t.Errorf("kind %d is %d", i+1, kind)
		}
	}
}

// P25.1
func TestNewAndPreface(t *testing.T) {
	want := append([]byte("PRI * HTTP/2.0\r\n\r\nSM\r\n\r\n"), 0, 0, 12, 4, 0, 0, 0, 0, 0, 0, 1, 0, 0, 0, 0, 0, 2, 0, 0, 0, 0)
	if got := Preface(); !bytes.Equal(got, want) {
		t.Errorf("Preface: %q", got)
	}
	Preface()[0] = 'x'
	if got := Preface(); !bytes.Equal(got, want) {
		t.Errorf("Preface is shared")
	}
	for _, c := range []outbound.Config{{}, {Tenants: 65, Cell: 64, Bytes: 1, Items: 1, Streams: 1}, {Tenants: 1, Cell: 15, Bytes: 1, Items: 1, Streams: 1}} {
		if x, e := New(c); x != nil || e != api.ErrRange {
			t.Errorf("New(%v): %v, %d", c, x, e)
		}
	}
	x := endpoint(t, config)
	if code, dead := x.Dead(); code != api.OK || dead || x.Away() || x.Now() != 0 || x.Streams(0) != 0 || x.Queued(0) != 0 || x.Taken(0) != 0 || len(x.Deliveries(0)) != 0 {
		t.Errorf("New isn't as at first")
	}
	for _, tenant := range []int{-1, 2, math.MinInt, math.MaxInt} {
		if x.Streams(tenant) != 0 || x.Queued(tenant) != 0 || x.Taken(tenant) != 0 || len(x.Deliveries(tenant)) != 0 {
			t.Errorf("the tenant %d has something", tenant)
		}
	}
}

// P25.1
func TestSubmit(t *testing.T) {
	c := config
	c.Bytes, c.Items = 30, 3
	x := endpoint(t, c)
	for _, tenant := range []int{-1, 2, math.MinInt, math.MaxInt} {
		if n, e := x.Submit(tenant, request.Request{}); n != 0 || e != api.ErrRange {
			t.Errorf("Submit(%d): %d, %d", tenant, n, e)
		}
	}
	big := get(0)
	big.Path = "/" + strings.Repeat("~", 100)
	hop := get(0)
	hop.Fields = fields("A", "")
	for i, r := range []struct {
		r request.Request
		e api.Errno
	}{{request.Request{}, api.ErrValue}, {big, api.ErrBig}, {hop, api.ErrName}, {get(28), api.ErrQuota}} {
		if n, e := x.Submit(1, r.r); n != 0 || e != r.e || x.Taken(1) != 0 || x.Queued(1) != 0 {
			t.Errorf("Submit %d: %d, %d", i, n, e)
		}
	}
	submit(t, x, 1, 17, 0)
	if _, e := x.Submit(1, get(5)); e != api.ErrQuota || x.Taken(1) != 2 || x.Queued(1) != 23 {
		t.Errorf("above the quota: %d", e)
	}
	submit(t, x, 1, 4)
	submit(t, x, 0, 27)
	if x.Taken(0) != 1 || x.Taken(1) != 3 {
		t.Errorf("Taken: %d, %d", x.Taken(0), x.Taken(1))
	}
}

// P25.3
func TestTick(t *testing.T) {
	x := endpoint(t, config)
	submit(t, x, 1, 0)
	o, e := x.Tick()
	filler, _ := cell.Fill(nil, 64)
	if e != api.OK || o.Tick != 0 || !bytes.Equal(o.Control, Preface()) || !bytes.Equal(o.Slot, filler) || o.Did != (outbound.Did{}) {
		t.Errorf("the first tick: %v, %d", o, e)
	}
	o, e = x.Tick()
	slot, _ := cell.Frames([]frame.Frame{{Type: frame.Headers, Flags: 5, Stream: 3, Payload: []byte{0x82, 0x86, 0x84}}}, 64)
	if e != api.OK || o.Tick != 1 || len(o.Control) != 0 || !bytes.Equal(o.Slot, slot) || o.Did != (outbound.Did{Kind: outbound.Ended, Tenant: 1, ID: 3}) {
		t.Errorf("the second tick: %v, %d", o, e)
	}
	feed(t, x, api.OK, asks(), ping(0), ping(1), ping(0), asks([2]int{9, 9}), frame.Frame{Type: 77})
	if l := control(t, x); !same(l, []frame.Frame{ack, ping(1), ping(1), ack}) {
		t.Errorf("control: %v", l)
	}
	if l := control(t, x); len(l) != 0 {
		t.Errorf("control again: %v", l)
	}
}

// P25.3: control ahead of the first tick stands behind the preface.
func TestFirstTick(t *testing.T) {
	x := endpoint(t, config)
	feed(t, x, api.OK, asks())
	if o, _ := x.Tick(); !bytes.Equal(o.Control, append(Preface(), row(ack)...)) {
		t.Errorf("%x", o.Control)
	}
	x = endpoint(t, config)
	feed(t, x, api.Protocol, ping(0))
	if o, e := x.Tick(); !bytes.Equal(o.Control, append(Preface(), row(goaway(0, 1))...)) || len(o.Slot) != 0 || o.Did != (outbound.Did{}) || e != api.OK {
		t.Errorf("%x", o.Control)
	}
}

// P25.3: the last tick.
func TestLastTick(t *testing.T) {
	x := endpoint(t, config)
	x.now = api.MaxTick
	if o, e := x.Tick(); o.Tick != api.MaxTick || len(o.Slot) != cell.Len(64) || e != api.OK {
		t.Errorf("the last one: %v, %d", o, e)
	}
	for range 2 {
		if o, e := x.Tick(); o.Tick != 0 || len(o.Control)+len(o.Slot) != 0 || e != api.ErrRange || x.Now() != api.MaxTick+1 {
			t.Errorf("behind it: %v, %d", o, e)
		}
	}
}

// P25.2: a request, its response.
func TestResponses(t *testing.T) {
	x := opened(t, 0)
	feed(t, x, api.OK, head(1, true, ":status", "204"))
	got(t, x, 0, headed(0, 204), done(0))
	got(t, x, 1)
	if x.Streams(0) != 0 || x.Streams(1) != 1 {
		t.Errorf("%d, %d streams", x.Streams(0), x.Streams(1))
	}
	ticks(t, x, 5)
	feed(t, x, api.OK, head(3, false, ":status", "103", "link", "x"), head(3, false, ":status", "100"), head(3, false, ":status", "200", "a", "b"), data(3, false, "hi"),
		data(3, false, ""), frame.Frame{Type: frame.Data, Flags: 8, Stream: 3, Payload: []byte("\x02ho\x00\x00")}, head(3, true, "t", "u"))
	want := []Delivery{
		{Kind: Interim, Status: 103, Fields: fields("link", "x")}, {Kind: Interim, Status: 100}, headed(0, 200, "a", "b"),
		part(0, "hi"), part(0, "ho"), {Kind: Trailed, Fields: fields("t", "u")}, done(0),
	}
	got(t, x, 1, want...)
	for i, d := range x.Deliveries(1) {
		if d.Tick != 7 {
			t.Errorf("delivery %d came at %d", i, d.Tick)
		}
	}
	if d := x.Deliveries(0); d[0].Tick != 2 {
		t.Errorf("the tenant 0's came at %d", d[0].Tick)
	}
	// they are over: what comes is passed over
	wrong := frame.Frame{Type: frame.Priority, Stream: 3, Payload: []byte{1}}
	feed(t, x, api.OK, head(3, true, ":status", "200"), data(1, true, "x"), reset(3, 0), update(3, 5), update(1, api.MaxWindow), update(3, 0), wrong)
	got(t, x, 1, want...)
	got(t, x, 0, headed(0, 204), done(0))
	for _, o := range ticks(t, x, 4) {
		if o.Kind != outbound.Nothing {
			t.Errorf("%v", o)
		}
	}
}

// P25.2: a response whose end is an empty Data, or one with a text.
func TestEnds(t *testing.T) {
	x := opened(t, 0)
	feed(t, x, api.OK, head(1, false, ":status", "200"), data(1, true, ""), head(3, false, ":status", "404"), data(3, true, "no"))
	got(t, x, 0, headed(0, 200), done(0))
	got(t, x, 1, headed(0, 404), part(0, "no"), done(0))
}

// P25.2: what breaks a stream; nothing of it reaches the other tenant.
func TestBroken(t *testing.T) {
	ok := head(1, false, ":status", "200")
	for i, c := range []struct {
		l    []frame.Frame
		want []Delivery
		code api.Errno
	}{
		{[]frame.Frame{data(1, false, "x")}, nil, api.Protocol},
		{[]frame.Frame{head(1, false, ":status", "100"), data(1, true, "x")}, []Delivery{{Kind: Interim, Status: 100}}, api.Protocol},
		{[]frame.Frame{head(1, true, ":status", "100")}, nil, api.Protocol},
		{[]frame.Frame{head(1, false, "a", "b")}, nil, api.Protocol},
		{[]frame.Frame{head(1, true, ":status", "20")}, nil, api.Protocol},
		{[]frame.Frame{head(1, true, ":status", "200", "connection", "close")}, nil, api.Protocol},
		{[]frame.Frame{ok, head(1, false, "a", "b")}, []Delivery{headed(0, 200)}, api.Protocol},
		{[]frame.Frame{ok, head(1, true, ":status", "200")}, []Delivery{headed(0, 200)}, api.Protocol},
		{[]frame.Frame{ok, data(1, false, "x"), head(1, true, "A", "b")}, []Delivery{headed(0, 200), part(0, "x")}, api.Protocol},
		{[]frame.Frame{update(1, 0)}, nil, api.Protocol},
		{[]frame.Frame{ok, update(1, api.MaxWindow)}, []Delivery{headed(0, 200)}, api.FlowControl},
		{[]frame.Frame{{Type: frame.Priority, Stream: 1, Payload: []byte{1}}}, nil, api.FrameSize},
		{[]frame.Frame{{Type: frame.Priority, Stream: 1, Payload: []byte{0, 0, 0, 1, 1}}}, nil, api.Protocol},
	} {
		for _, body := range []int{0, 200} {
			x := opened(t, body)
			feed(t, x, api.OK, c.l...)
			feed(t, x, api.OK, head(1, true, ":status", "200"), data(1, false, "late"), reset(1, 5)) // over
			got(t, x, 0, append(c.want, failed(0, c.code))...)
			got(t, x, 1)
			if x.Streams(0) != 0 || x.Streams(1) != 1 {
				t.Errorf("case %d: %d, %d streams", i, x.Streams(0), x.Streams(1))
			}
			if l := ticks(t, x, 1); l[0] != (outbound.Did{Kind: outbound.Cut, ID: 1}) {
				t.Errorf("case %d: %v", i, l)
			}
			if l := ticks(t, x, 3); l[1] != (outbound.Did{}) {
				t.Errorf("case %d: %v", i, l)
			}
			feed(t, x, api.OK, head(3, true, ":status", "200"))
			got(t, x, 1, headed(0, 200), done(0))
		}
	}
}

// P25.2: the slot of a broken stream has the code.
func TestResetsCode(t *testing.T) {
	x := opened(t, 0)
	feed(t, x, api.OK, update(1, api.MaxWindow))
	o, _ := x.Tick()
	if want, _ := cell.Frames([]frame.Frame{reset(1, 3)}, 64); !bytes.Equal(o.Slot, want) {
		t.Errorf("%x", o.Slot)
	}
}

// P25.2: behind the backend's end, while we still send.
func TestTheyEndedFirst(t *testing.T) {
	for i, l := range [][]frame.Frame{{head(1, true, ":status", "200")}, {data(1, false, "x")}, {data(1, true, "")}, {update(1, api.MaxWindow)}, {update(1, 0)}, {{Type: frame.Priority, Stream: 1}}, {reset(1, 8)}, {goaway(0, 0)}} {
		x := opened(t, 100)
		feed(t, x, api.OK, head(1, true, ":status", "200"))
		want := []Delivery{headed(0, 200), done(0)}
		got(t, x, 0, want...)
		if x.Streams(0) != 1 {
			t.Errorf("case %d: %d streams", i, x.Streams(0))
		}
		feed(t, x, api.OK, l...)
		got(t, x, 0, want...) // no Failed behind Done
		if x.Streams(0) != 0 {
			t.Errorf("case %d: %d streams", i, x.Streams(0))
		}
		kind := outbound.Cut
		if i >= 6 {
			kind = outbound.Nothing // nobody resets what is reset
		}
		if l := ticks(t, x, 1); l[0].Kind != kind {
			t.Errorf("case %d: %v", i, l)
		}
	}
	x := opened(t, 100)
	feed(t, x, api.OK, head(1, true, ":status", "200"))
	feed(t, x, api.OK, update(1, 5))
	l := ticks(t, x, 3)
	if l[0] != (outbound.Did{Kind: outbound.Sent, ID: 1, N: 63}) || l[2] != (outbound.Did{Kind: outbound.Ended, ID: 1, N: 37}) || x.Streams(0) != 0 {
		t.Errorf("%v", l)
	}
	if len(x.heard) != 0 {
		t.Errorf("kept of streams that are over: %v", x.heard)
	}
	x = opened(t, 100)
	feed(t, x, api.OK, head(1, true, ":status", "200"))
	feed(t, x, api.Protocol, frame.Frame{Type: frame.Promise})
	got(t, x, 0, headed(0, 200), done(0))
	got(t, x, 1, failed(0, api.Protocol))
}

// P25.2: a Reset.
func TestReset(t *testing.T) {
	for _, c := range []struct {
		code uint32
		want api.Errno
	}{{0, 100}, {8, 108}, {77, 177}, {1<<31 - 101, 1<<31 - 1}, {1<<31 - 100, api.Internal}, {1<<32 - 1, api.Internal}} {
		x := opened(t, 0)
		feed(t, x, api.OK, reset(3, c.code))
		got(t, x, 1, failed(0, c.want))
		got(t, x, 0)
		if x.Streams(1) != 0 {
			t.Errorf("%d streams", x.Streams(1))
		}
		for _, did := range ticks(t, x, 4) {
			if did.Kind != outbound.Nothing {
				t.Errorf("%v", did)
			}
		}
		feed(t, x, api.OK, reset(3, c.code))
		got(t, x, 1, failed(0, c.want))
	}
}

// P25.2: faults of the connection.
func TestDead(t *testing.T) {
	for i, c := range []struct {
		f    frame.Frame
		code api.Errno
	}{
		{head(5, true, ":status", "200"), api.Protocol}, {head(2, true, ":status", "200"), api.Protocol}, {data(5, true, ""), api.Protocol}, {data(2, false, ""), api.Protocol},
		{reset(5, 1), api.Protocol}, {reset(4, 1), api.Protocol}, {update(5, 1), api.Protocol}, {update(2, 1), api.Protocol}, {update(0, 0), api.Protocol}, {update(5, 0), api.Protocol},
		{update(0, api.MaxWindow), api.FlowControl}, {frame.Frame{Type: frame.Priority, Stream: 5, Payload: []byte{1}}, api.Protocol}, {frame.Frame{Type: frame.Priority, Stream: 2}, api.Protocol},
		{asks([2]int{2, 2}), api.Protocol}, {asks([2]int{4, api.MaxWindow + 1}), api.FlowControl}, {asks([2]int{5, 5}), api.Protocol},
		{frame.Frame{Type: frame.Headers, Flags: 4, Stream: 1, Payload: []byte{0xbe}}, api.Compression}, {frame.Frame{Type: frame.Ping}, api.FrameSize},
		{frame.Frame{Type: frame.Data, Stream: 1, Payload: make([]byte, api.MaxFrame+1)}, api.FrameSize},
	} {
		x := opened(t, 100)
		submit(t, x, 1, 5, 6)
		submit(t, x, 0, 7)
		feed(t, x, api.OK, ping(0))
		feed(t, x, c.code, c.f)
		if code, dead := x.Dead(); code != c.code || !dead {
			t.Errorf("case %d: %d, %v", i, code, dead)
		}
		got(t, x, 0, failed(0, c.code), failed(1, c.code))
		got(t, x, 1, failed(0, c.code), failed(1, c.code), failed(2, c.code))
		if x.Streams(0)+x.Streams(1)+x.Queued(0)+x.Queued(1) != 0 {
			t.Errorf("case %d: something is left", i)
		}
		if e := x.Feed(row(ping(0))); e != api.ErrState {
			t.Errorf("case %d, Feed: %d", i, e)
		}
		if _, e := x.Submit(0, get(0)); e != api.ErrState {
			t.Errorf("case %d, Submit: %d", i, e)
		}
		if _, e := x.Submit(7, get(0)); e != api.ErrRange {
			t.Errorf("case %d, Submit: %d", i, e)
		}
		now := x.Now()
		o, e := x.Tick()
		if want := row(goaway(0, int(c.code-100))); !bytes.Equal(o.Control, want) || len(o.Slot) != 0 || o.Did != (outbound.Did{}) || o.Tick != now || e != api.OK {
			t.Errorf("case %d: %v, %d", i, o, e)
		}
		if o, e := x.Tick(); len(o.Control)+len(o.Slot) != 0 || o.Tick != now+1 || e != api.OK {
			t.Errorf("case %d: %v, %d", i, o, e)
		}
		if x.Away() || x.Taken(1) != 3 {
			t.Errorf("case %d: away %v, taken %d", i, x.Away(), x.Taken(1))
		}
	}
}

// P25.2: what stands ahead of a fault is done, what stands behind it isn't.
func TestAheadOfAFault(t *testing.T) {
	x := opened(t, 0)
	feed(t, x, api.Protocol, head(1, true, ":status", "200"), head(5, true, ":status", "200"), head(3, true, ":status", "200"))
	got(t, x, 0, headed(0, 200), done(0))
	got(t, x, 1, failed(0, api.Protocol))
	x = opened(t, 0)
	feed(t, x, api.Protocol, head(1, true, ":status", "200"), frame.Frame{Type: frame.Promise, Stream: 1}, head(3, true, ":status", "200"))
	got(t, x, 0, headed(0, 200), done(0))
	got(t, x, 1, failed(0, api.Protocol))
	// an event's fault ahead of the reader's
	x = opened(t, 0)
	feed(t, x, api.FlowControl, update(0, api.MaxWindow), frame.Frame{Type: frame.Promise, Stream: 1})
}

// P25.2: settings.
func TestAsked(t *testing.T) {
	x := endpoint(t, config)
	submit(t, x, 0, 200, 0, 0, 0)
	feed(t, x, api.OK, asks([2]int{4, 64}, [2]int{3, 5}))
	l := ticks(t, x, 6)
	want := []outbound.Did{{Kind: outbound.Opened, ID: 1}, {Tenant: 1}, {Kind: outbound.Sent, ID: 1, N: 63}, {Tenant: 1}, {Kind: outbound.Ended, ID: 9, Number: 1}, {Tenant: 1}}
	if !slices.Equal(l, want) {
		t.Errorf("%v", l)
	}
	if l := ticks(t, x, 1); l[0] != (outbound.Did{}) { // two of five by two
		t.Errorf("%v", l)
	}
	// a greater first window for the live ones; fewer streams
	feed(t, x, api.OK, asks([2]int{4, 128}, [2]int{3, 1}))
	ticks(t, x, 1)
	if l := ticks(t, x, 1); l[0] != (outbound.Did{Kind: outbound.Sent, ID: 1, N: 63}) {
		t.Errorf("%v", l)
	}
	feed(t, x, api.OK, asks([2]int{3, 100}))
	ticks(t, x, 1)
	if l := ticks(t, x, 1); l[0] != (outbound.Did{Kind: outbound.Ended, ID: 21, Number: 2}) {
		t.Errorf("%v", l)
	}
	// a window of a live stream that would be too great: the connection's fault
	feed(t, x, api.OK, update(1, api.MaxWindow-128))
	feed(t, x, api.OK, asks([2]int{4, 128}))
	feed(t, x, api.FlowControl, asks([2]int{4, 300}))
	got(t, x, 0, failed(0, api.FlowControl), failed(1, api.FlowControl), failed(2, api.FlowControl), failed(3, api.FlowControl))
}

// P25.2: what was asked once holds, till something else is asked.
func TestAskedHolds(t *testing.T) {
	x := endpoint(t, config)
	submit(t, x, 0, 200, 0)
	feed(t, x, api.OK, asks([2]int{4, 64}, [2]int{3, 2}), asks([2]int{1, 0}))
	kinds := func(want ...int) {
		t.Helper()
		for _, kind := range want {
			if l := ticks(t, x, 2); l[0].Kind != kind {
				t.Errorf("%v, not %d", l[0], kind)
			}
		}
	}
	kinds(outbound.Opened, outbound.Sent, outbound.Nothing, outbound.Nothing)
	feed(t, x, api.OK, asks([2]int{4, api.Window0}))
	kinds(outbound.Sent, outbound.Sent, outbound.Ended, outbound.Nothing) // of the windows, no more; one stream alone
	feed(t, x, api.OK, asks([2]int{3, 4}))
	kinds(outbound.Ended)
}

// P25.2: windows of the backend's.
func TestUpdates(t *testing.T) {
	x := endpoint(t, outbound.Config{Tenants: 64, Cell: 256, Bytes: 20000, Items: 50, Streams: 10})
	submit(t, x, 63, 2000)
	l := ticks(t, x, 64*6)
	if l[63+64*3].Kind != outbound.Sent || l[63+64*4].Kind != outbound.Nothing {
		t.Errorf("%v", l[63+64*3])
	}
	feed(t, x, api.OK, asks(), update(0, 64))
	if l := ticks(t, x, 64); l[63].Kind != outbound.Sent {
		t.Errorf("%v", l[63])
	}
}

// P25.2: a Goaway.
func TestAway(t *testing.T) {
	x := endpoint(t, config)
	submit(t, x, 0, 0, 0, 0)
	submit(t, x, 1, 0, 0, 0)
	ticks(t, x, 4)
	feed(t, x, api.OK, asks(), goaway(3, 2))
	got(t, x, 0, failed(1, api.Refused), failed(2, api.Refused))
	got(t, x, 1, failed(1, api.Refused), failed(2, api.Refused))
	if _, dead := x.Dead(); dead || !x.Away() || x.Streams(0) != 1 || x.Queued(0) != 0 {
		t.Errorf("away: %v, %d streams", x.Away(), x.Streams(0))
	}
	if _, e := x.Submit(0, get(0)); e != api.ErrState {
		t.Errorf("Submit: %d", e)
	}
	if _, e := x.Submit(-1, get(0)); e != api.ErrRange {
		t.Errorf("Submit: %d", e)
	}
	feed(t, x, api.OK, head(1, true, ":status", "200"), goaway(1, 0))
	got(t, x, 0, failed(1, api.Refused), failed(2, api.Refused), headed(0, 200), done(0))
	got(t, x, 1, failed(1, api.Refused), failed(2, api.Refused), failed(0, api.Refused))
	for _, did := range ticks(t, x, 4) {
		if did.Kind != outbound.Nothing {
			t.Errorf("%v", did)
		}
	}
}

// P25.2: what is given back, to the connection and to a stream.
func TestGivenBack(t *testing.T) {
	x := opened(t, 0)
	feed(t, x, api.OK, head(1, false, ":status", "200"))
	ticks(t, x, 2) // the Acknowledge
	text := strings.Repeat("x", 16383)
	feed(t, x, api.OK, data(1, false, text), data(1, false, text), data(1, false, "x"))
	if l := control(t, x); len(l) != 0 { // 32767
		t.Errorf("below half: %v", l)
	}
	ticks(t, x, 1)
	feed(t, x, api.OK, data(1, false, "y"))
	o, _ := x.Tick()
	if want := row(update(0, 32768)); !bytes.Equal(o.Control, want) || o.Did != (outbound.Did{Kind: outbound.Gave, ID: 1, N: 32768}) {
		t.Errorf("half: %x, %v", o.Control, o.Did)
	}
	ticks(t, x, 1)
	// again, by both tenants: of a stream alone no half is reached
	feed(t, x, api.OK, head(3, false, ":status", "200"), data(1, false, text), data(3, false, text), data(3, false, "zz"))
	o, _ = x.Tick()
	if want := row(update(0, 32768)); !bytes.Equal(o.Control, want) || o.Did != (outbound.Did{}) {
		t.Errorf("by both: %x, %v", o.Control, o.Did)
	}
	// padding counts; the end gives nothing back to a stream; what is over counts for the connection
	feed(t, x, api.OK, frame.Frame{Type: frame.Data, Flags: 8, Stream: 3, Payload: make([]byte, 16383)})
	o, _ = x.Tick()
	if o.Did != (outbound.Did{Kind: outbound.Gave, Tenant: 1, ID: 3, N: 32768}) || len(o.Control) != 0 {
		t.Errorf("padding: %v", o.Did)
	}
	feed(t, x, api.OK, data(1, false, text), data(1, true, "ab"))
	o, _ = x.Tick()
	if o.Did != (outbound.Did{}) || !bytes.Equal(o.Control, row(update(0, 32768))) {
		t.Errorf("at the end: %v, %x", o.Did, o.Control)
	}
	if x.Streams(0) != 0 {
		t.Errorf("%d streams", x.Streams(0))
	}
	feed(t, x, api.OK, data(1, false, text), data(1, false, text), data(1, false, text))
	ticks(t, x, 1)
	if l := control(t, x); len(l) != 0 { // ticks took it
		t.Errorf("%v", l)
	}
	if x.owed != 0 {
		t.Errorf("owed: %d", x.owed)
	}
}

// P25.2: where they end, nothing more is given, though we still send.
func TestNothingGivenAtTheEnd(t *testing.T) {
	x := opened(t, 100)
	text := strings.Repeat("x", api.MaxFrame)
	feed(t, x, api.OK, head(1, false, ":status", "200"), data(1, false, text), data(1, true, text))
	if l := ticks(t, x, 1); l[0] != (outbound.Did{Kind: outbound.Sent, ID: 1, N: 63}) {
		t.Errorf("%v", l)
	}
}

// P25.2: many chunks, one meaning.
func TestHalves(t *testing.T) {
	x := opened(t, 0)
	b := row(head(1, true, ":status", "200"))
	if e := x.Feed(b[:5]); e != api.OK {
		t.Errorf("half a frame: %d", e)
	}
	got(t, x, 0)
	if e := x.Feed(b[5:]); e != api.OK {
		t.Errorf("the other half: %d", e)
	}
	got(t, x, 0, headed(0, 200), done(0))
}

// P25.2: Equal, and the rule on memory.
func TestEqualAndShares(t *testing.T) {
	whole := func() Delivery { return Delivery{1, 2, 3, 4, 5, fields("a", "b"), []byte("c"), 6} }
	if !whole().Equal(whole()) || !(Delivery{}).Equal(Delivery{Fields: []static.Field{}, Text: []byte{}}) {
		t.Errorf("a delivery is another one than itself")
	}
	for i, change := range []func(d *Delivery){
		func(d *Delivery) { d.Tick = 0 }, func(d *Delivery) { d.Tenant = 0 }, func(d *Delivery) { d.Number = 0 }, func(d *Delivery) { d.Kind = 0 }, func(d *Delivery) { d.Status = 0 },
		func(d *Delivery) { d.Fields = nil }, func(d *Delivery) { d.Fields[0].Value = "" }, func(d *Delivery) { d.Text = nil }, func(d *Delivery) { d.Code = 0 },
	} {
		d := whole()
		change(&d)
		if d.Equal(whole()) || whole().Equal(d) {
			t.Errorf("change %d isn't seen", i)
		}
	}
	x := opened(t, 0)
	feed(t, x, api.OK, head(1, false, ":status", "200", "a", "b"), data(1, false, "text"))
	l := x.Deliveries(0)
	l[0].Fields[0].Name, l[1].Text[0], l[1].Kind = "z", 'z', 9
	got(t, x, 0, headed(0, 200, "a", "b"), part(0, "text"))
	r := get(5)
	x.Submit(0, r)
	clear(r.Body)
	ticks(t, x, 2)
	o, _ := x.Tick()
	if want, _ := cell.Pad(5, []byte("bbbbb"), true, 64); !bytes.HasPrefix(o.Slot, row(want)) {
		t.Errorf("what is handed in is kept: %x", o.Slot)
	}
}
