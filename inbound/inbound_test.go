package inbound

import (
	"math/rand"
	"slices"
	"testing"

	"squint/api"
	"squint/block"
	"squint/decode"
	"squint/encode"
	"squint/frame"
	"squint/payload"
	"squint/static"
)

func row(l ...frame.Frame) []byte {
	var out []byte
	for _, f := range l {
		b, e := f.Bytes()
		if e != api.OK {
			panic(e)
		}
		out = append(out, b...)
	}
	return out
}

func lines(l ...string) []decode.Line {
	var out []decode.Line
	for i := 0; i < len(l); i += 2 {
		out = append(out, decode.Line{Field: static.Field{Name: l[i], Value: l[i+1]}})
	}
	return out
}

func settings(pairs ...byte) frame.Frame { return frame.Frame{Type: frame.Settings, Payload: pairs} }

func headers(stream, flags int, b ...byte) frame.Frame {
	return frame.Frame{Type: frame.Headers, Flags: flags, Stream: stream, Payload: b}
}

func more(stream, flags int, b ...byte) frame.Frame {
	return frame.Frame{Type: frame.Continuation, Flags: flags, Stream: stream, Payload: b}
}

func data(stream, flags int, text string) frame.Frame {
	return frame.Frame{Type: frame.Data, Flags: flags, Stream: stream, Payload: []byte(text)}
}

func conn(code api.Errno) payload.Fault { return payload.Fault{Code: code, Conn: true} }

var asked = Event{Kind: Asked}

// P23.1: the kinds have their numbers.
func TestNumbers(t *testing.T) {
	for i, kind := range []int{Head, Body, Reset, Update, Asked, Agreed, Ping, Pong, Away, Wrong} {
		if kind != i+1 {
			t.Errorf("kind %d is %d", i+1, kind)
		}
	}
}

// P23.1: what frames say.
func TestEvents(t *testing.T) {
	for i, c := range []struct {
		l    []frame.Frame
		want []Event
	}{
		{nil, nil},
		{[]frame.Frame{headers(5, 4, 0x88)}, []Event{{Kind: Head, Stream: 5, Lines: lines(":status", "200")}}},
		{[]frame.Frame{headers(5, 5, 0x88)}, []Event{{Kind: Head, Stream: 5, Lines: lines(":status", "200"), End: true}}},
		{[]frame.Frame{headers(5, 1, 0x88), more(5, 0), more(5, 4, 0x82)}, []Event{{Kind: Head, Stream: 5, Lines: lines(":status", "200", ":method", "GET"), End: true}}},
		{[]frame.Frame{headers(5, 4)}, []Event{{Kind: Head, Stream: 5}}},
		{[]frame.Frame{headers(4, 0x2c, 1, 0, 0, 0, 3, 9, 0x88, 0)}, []Event{{Kind: Head, Stream: 4, Lines: lines(":status", "200")}}},
		{[]frame.Frame{data(3, 0, "abc"), data(3, 9, "\x02abc\x00\x00")}, []Event{{Kind: Body, Stream: 3, Text: []byte("abc"), N: 3}, {Kind: Body, Stream: 3, Text: []byte("abc"), End: true, N: 6}}},
		{[]frame.Frame{{Type: frame.Reset, Stream: 3, Payload: []byte{0, 0, 1, 8}}}, []Event{{Kind: Reset, Stream: 3, Code: 264}}},
		{[]frame.Frame{{Type: frame.Update, Stream: 3, Payload: []byte{0, 0, 1, 8}}, {Type: frame.Update, Payload: []byte{0x80, 0, 0, 1}}}, []Event{{Kind: Update, Stream: 3, N: 264}, {Kind: Update, N: 1}}},
		{[]frame.Frame{settings(0, 4, 0, 0, 1, 0), settings()}, []Event{{Kind: Asked, Pairs: [][2]int{{4, 256}}}, asked}},
		{[]frame.Frame{{Type: frame.Settings, Flags: 1}}, []Event{{Kind: Agreed}}},
		{[]frame.Frame{{Type: frame.Ping, Payload: []byte("abcdefgh")}, {Type: frame.Ping, Flags: 1, Payload: []byte("ABCDEFGH")}}, []Event{{Kind: Ping, Text: []byte("abcdefgh")}, {Kind: Pong, Text: []byte("ABCDEFGH")}}},
		{[]frame.Frame{{Type: frame.Goaway, Payload: []byte("\x80\x00\x00\x07\x00\x00\x00\x02bye")}}, []Event{{Kind: Away, N: 7, Code: 2, Text: []byte("bye")}}},
		{[]frame.Frame{{Type: frame.Priority, Stream: 3, Payload: []byte{0, 0, 0, 1, 5}}, {Type: 10, Stream: 3, Payload: []byte("x")}, {Type: 250, Payload: []byte("x")}}, nil},
		{[]frame.Frame{{Type: frame.Priority, Stream: 3, Payload: []byte{0}}}, []Event{{Kind: Wrong, Stream: 3, Code: 106}}},
		{[]frame.Frame{{Type: frame.Priority, Stream: 3, Payload: []byte{0, 0, 0, 3, 5}}}, []Event{{Kind: Wrong, Stream: 3, Code: 101}}},
		{[]frame.Frame{{Type: frame.Update, Stream: 3, Payload: []byte{0, 0, 0, 0}}, data(3, 0, "")}, []Event{{Kind: Wrong, Stream: 3, Code: 101}, {Kind: Body, Stream: 3}}},
	} {
		r := New()
		if r.Dead() || r.Waiting() != 0 {
			t.Errorf("New: %v, %d", r.Dead(), r.Waiting())
		}
		l, fault := r.Feed(row(append([]frame.Frame{settings()}, c.l...)...))
		if !fault.OK() || !slices.EqualFunc(l, append([]Event{asked}, c.want...), Event.Equal) || r.Dead() || r.Waiting() != 0 {
			t.Errorf("row %d: %v, %v", i, l, fault)
		}
	}
}

// P23.1: faults of the connection, what stands ahead of them, and what behind.
func TestFaults(t *testing.T) {
	for i, c := range []struct {
		l    []frame.Frame
		n    int
		want payload.Fault
	}{
		{[]frame.Frame{headers(5, 4, 0x88)}, 0, conn(api.Protocol)},
		{[]frame.Frame{{Type: frame.Settings, Flags: 1}}, 0, conn(api.Protocol)},
		{[]frame.Frame{{Type: frame.Settings, Flags: 1, Payload: make([]byte, 5)}}, 0, conn(api.Protocol)},
		{[]frame.Frame{{Type: 250}}, 0, conn(api.Protocol)},
		{[]frame.Frame{{Type: frame.Settings, Stream: 1}}, 0, conn(api.Protocol)},
		{[]frame.Frame{settings(0)}, 0, conn(api.FrameSize)},
		{[]frame.Frame{settings(), data(0, 0, "a")}, 1, conn(api.Protocol)},
		{[]frame.Frame{settings(), {Type: frame.Ping}}, 1, conn(api.FrameSize)},
		{[]frame.Frame{settings(), {Type: frame.Promise, Stream: 1, Payload: []byte{0, 0, 0, 2}}}, 1, conn(api.Protocol)},
		{[]frame.Frame{settings(), headers(5, 0x24, 0, 0, 0, 5, 1, 0x88)}, 1, conn(api.Protocol)}, // a Headers that depends on itself
		{[]frame.Frame{settings(), headers(5, 8)}, 1, conn(api.FrameSize)},
		{[]frame.Frame{settings(), {Type: frame.Update, Payload: []byte{0, 0, 0, 0}}}, 1, conn(api.Protocol)},
		{[]frame.Frame{settings(), more(5, 4, 0x88)}, 1, conn(api.Protocol)},
		{[]frame.Frame{settings(), headers(5, 0, 0x88), data(5, 0, "a")}, 1, conn(api.Protocol)},
		{[]frame.Frame{settings(), headers(5, 0, 0x88), more(7, 4)}, 1, conn(api.Protocol)},
		{[]frame.Frame{settings(), headers(5, 0, 0x88), {Type: 250}}, 1, conn(api.Protocol)},
		{[]frame.Frame{settings(), headers(5, 0, 0x88), {Type: frame.Ping}}, 1, conn(api.Protocol)}, // not FrameSize
		{[]frame.Frame{settings(), headers(5, 0, 0x88), {Type: frame.Priority, Stream: 5}}, 1, conn(api.Protocol)},
		{[]frame.Frame{settings(), headers(5, 0, make([]byte, api.MaxFrame)...), more(5, 0, 1)}, 1, conn(api.Protocol)},
		{[]frame.Frame{settings(), data(5, 0, "a"), headers(5, 4, 0xbe)}, 2, conn(api.Compression)},
		{[]frame.Frame{settings(), headers(5, 4, 0x80)}, 1, conn(api.Compression)},
		{[]frame.Frame{settings(), headers(5, 4, 0x21)}, 1, conn(api.Compression)},
		{[]frame.Frame{settings(), headers(5, 4, 0x40, 1, 'a', 1, 'b', 0xbe)}, 1, conn(api.Compression)},
		{[]frame.Frame{settings(), headers(5, 4, 0x00, 1)}, 1, conn(api.Compression)},
	} {
		r := New()
		// more frames, and half a one, behind the fault are passed over
		l, fault := r.Feed(append(row(append(c.l, data(5, 0, "x"), settings())...), 0, 0, 1))
		if fault != c.want || len(l) != c.n || !r.Dead() || r.Waiting() != 0 {
			t.Errorf("row %d: %v, %v", i, l, fault)
		}
		for range 2 {
			if l, fault := r.Feed(row(settings())); len(l) != 0 || fault != conn(api.Closed) || r.Waiting() != 0 {
				t.Errorf("row %d, behind it: %v, %v", i, l, fault)
			}
		}
		if d := r.Copy(); !d.Dead() || d.Waiting() != 0 {
			t.Errorf("row %d: its copy isn't dead", i)
		} else if _, fault := d.Feed(nil); fault != conn(api.Closed) {
			t.Errorf("row %d: its copy's fault: %v", i, fault)
		}
	}
}

// P23.1: a frame that is too great takes its chunk's events with it.
func TestFrameSize(t *testing.T) {
	big := frame.Frame{Type: 250, Payload: make([]byte, api.MaxFrame+1)}
	r := New()
	if l, fault := r.Feed(row(settings(), big)); len(l) != 0 || fault != conn(api.FrameSize) || !r.Dead() {
		t.Errorf("one chunk: %v, %v", l, fault)
	}
	r = New()
	if l, fault := r.Feed(row(settings())); len(l) != 1 || !fault.OK() {
		t.Errorf("the first chunk: %v, %v", l, fault)
	}
	if l, fault := r.Feed(row(big)[:9]); len(l) != 0 || fault != conn(api.FrameSize) || !r.Dead() || r.Waiting() != 0 {
		t.Errorf("the second one: %v, %v", l, fault)
	}
	r = New()
	if l, fault := r.Feed(row(settings(), frame.Frame{Type: 250, Payload: make([]byte, api.MaxFrame)})); len(l) != 1 || !fault.OK() {
		t.Errorf("just the most: %v, %v", l, fault)
	}
}

// P23.1: blocks may be as long as MaxList, and say fields of as much.
func TestBlocksAtTheLimit(t *testing.T) {
	r := New()
	r.Feed(row(settings()))
	l, fault := r.Feed(row(headers(5, 0, make([]byte, api.MaxFrame)...)))
	if len(l) != 0 || !fault.OK() || r.Waiting() != api.MaxList {
		t.Errorf("MaxList bytes: %v, %v, %d wait", l, fault, r.Waiting())
	}
	// 0 0 0 is a field of the size 32
	fields := make([]byte, 3*api.MaxList/32)
	for _, c := range []struct {
		b    []byte
		want payload.Fault
	}{{fields, payload.Fault{}}, {append(fields, 0, 0, 0), conn(api.Compression)}} {
		r := New()
		if _, fault := r.Feed(row(settings(), headers(5, 4, c.b...))); fault != c.want {
			t.Errorf("%d bytes: %v", len(c.b), fault)
		}
	}
}

// P23.2: what a block means hangs on its own bytes alone.
func TestBlocksStandAlone(t *testing.T) {
	r := New()
	l, fault := r.Feed(row(settings(), headers(1, 4, 0x40, 1, 'a', 1, 'b'), headers(3, 4, 0x20, 0x88), headers(5, 4, 0x40, 1, 'a', 1, 'b')))
	if !fault.OK() || len(l) != 4 || !slices.Equal(l[1].Lines, l[3].Lines) {
		t.Errorf("%v, %v", l, fault)
	}
	if _, fault := r.Feed(row(headers(7, 4, 0xbe))); fault != conn(api.Compression) {
		t.Errorf("what was added is known: %v", fault)
	}
}

// P23.1
func TestWaitingAndCopy(t *testing.T) {
	r := New()
	r.Feed(row(settings(), headers(5, 0, 0x88)))
	r.Feed(row(more(5, 4, 0x82))[:7])
	if r.Waiting() != 8 {
		t.Errorf("%d wait", r.Waiting())
	}
	c := r.Copy()
	l, fault := r.Feed(row(more(5, 4, 0x82))[7:])
	if !fault.OK() || len(l) != 1 || len(l[0].Lines) != 2 || r.Waiting() != 0 || c.Waiting() != 8 {
		t.Errorf("%v, %v", l, fault)
	}
	m, fault := c.Feed(row(more(5, 4, 0x82))[7:])
	if !fault.OK() || !slices.EqualFunc(l, m, Event.Equal) {
		t.Errorf("the copy: %v, %v", m, fault)
	}
	if _, fault := c.Feed(row(data(0, 0, ""))); fault.OK() || !c.Dead() || r.Dead() {
		t.Errorf("dead with its copy")
	}
}

// P23.1
func TestEqual(t *testing.T) {
	whole := func() Event { return Event{1, 2, lines("a", "b"), []byte("c"), [][2]int{{3, 4}}, true, 5, 6} }
	if !whole().Equal(whole()) || !(Event{}).Equal(Event{Lines: []decode.Line{}, Text: []byte{}, Pairs: [][2]int{}}) {
		t.Errorf("an event is another one than itself")
	}
	for i, change := range []func(x *Event){
		func(x *Event) { x.Kind = 0 }, func(x *Event) { x.Stream = 0 }, func(x *Event) { x.Lines = nil }, func(x *Event) { x.Lines[0].Never = true }, func(x *Event) { x.Text = nil },
		func(x *Event) { x.Pairs = nil }, func(x *Event) { x.End = false }, func(x *Event) { x.N = 0 }, func(x *Event) { x.Code = 0 }, func(x *Event) { x.N, x.Code = 6, 5 },
	} {
		x, y := whole(), whole()
		change(&y)
		if x.Equal(y) || y.Equal(x) {
			t.Errorf("change %d isn't seen", i)
		}
	}
}

// some tells frames, most of them right.
func some(r *rand.Rand) []frame.Frame {
	l := []frame.Frame{settings()}
	for range r.Intn(12) {
		stream := 1 + r.Intn(3)
		switch r.Intn(8) {
		case 0:
			b, _ := encode.Encode(lines(":status", "200", "a", string(make([]byte, r.Intn(9)))))
			fs, _ := block.Split(stream, b, r.Intn(2) == 0, 1+r.Intn(9))
			l = append(l, fs...)
		case 1:
			l = append(l, data(stream, r.Intn(16), string(make([]byte, r.Intn(9)))))
		case 2:
			l = append(l, frame.Frame{Type: frame.Ping, Flags: r.Intn(2), Payload: make([]byte, 8)})
		case 3:
			l = append(l, frame.Frame{Type: frame.Update, Stream: r.Intn(3), Payload: []byte{0, 0, 0, byte(r.Intn(9))}})
		case 4:
			l = append(l, frame.Frame{Type: 10 + r.Intn(200), Payload: make([]byte, r.Intn(9))})
		case 5:
			l = append(l, settings(0, 4, 0, 0, 0, byte(r.Intn(9))))
		case 6:
			l = append(l, frame.Frame{Type: frame.Reset, Stream: stream, Payload: make([]byte, 4)})
		case 7:
			if r.Intn(5) == 0 {
				l = append(l, frame.Frame{Type: r.Intn(12), Flags: r.Intn(256), Stream: r.Intn(3), Payload: make([]byte, r.Intn(12))})
			}
		}
	}
	return l
}

// P23.2: however bytes are cut.
func TestAnyChunks(t *testing.T) {
	r := rand.New(rand.NewSource(1))
	faults := 0
	for range 1000 {
		b := row(some(r)...)
		want, wantFault := New().Feed(b)
		re := New()
		var got []Event
		var gotFault payload.Fault
		for len(b) > 0 && gotFault.OK() {
			n := 1 + r.Intn(min(len(b), 20))
			l, fault := re.Feed(b[:n])
			got, gotFault = append(got, l...), fault
			b = b[n:]
		}
		if !slices.EqualFunc(got, want, Event.Equal) || gotFault != wantFault {
			t.Fatalf("%v, %v, not %v, %v", got, gotFault, want, wantFault)
		}
		if !wantFault.OK() {
			faults++
		}
	}
	if faults == 0 || faults == 1000 {
		t.Errorf("%d faults", faults)
	}
}

// FuzzFeed: whatever comes, a call ends.
func FuzzFeed(f *testing.F) {
	f.Add(row(settings(), headers(5, 4, 0x88)), 5)
	f.Fuzz(func(t *testing.T, b []byte, cut int) {
		r := New()
		if cut < 0 || cut > len(b) {
			cut = 0
		}
		r.Feed(b[:cut])
		r.Feed(b[cut:])
		if r.Waiting() > api.MaxFrame+frame.HeadSize+api.MaxList {
			t.Fatalf("%d wait", r.Waiting())
		}
	})
}
