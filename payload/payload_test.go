package payload

import (
	"bytes"
	"encoding/hex"
	"strings"
	"testing"

	"squint/api"
	"squint/frame"
)

func unhex(s string) []byte {
	b, err := hex.DecodeString(strings.ReplaceAll(s, " ", ""))
	if err != nil {
		panic(err)
	}
	return b
}

var (
	none       = Fault{}
	connProto  = Fault{api.Protocol, true}
	connSize   = Fault{api.FrameSize, true}
	strmProto  = Fault{api.Protocol, false}
	strmSize   = Fault{api.FrameSize, false}
	eightBytes = "61 62 63 64 65 66 67 68"
)

// P10.1: what is said.
func TestParse(t *testing.T) {
	for _, c := range []struct {
		kind, flags, stream int
		payload             string
		want                Item
	}{
		{frame.Data, 8, 5, "01 61 62 00", Item{Text: []byte("ab"), Flow: 4}},
		{frame.Data, 0, 5, "01 61 62 00", Item{Text: []byte("\x01ab\x00"), Flow: 4}},
		{frame.Data, 9, 5, "00", Item{End: true, Flow: 1}},
		{frame.Data, 8, 5, "03 00 01 02", Item{Flow: 4}},
		{frame.Data, 1, 5, "", Item{End: true}},
		{frame.Data, 0xf6, 5, "61", Item{Text: []byte("a"), Flow: 1}},
		{frame.Data, 0x20, 5, "61", Item{Text: []byte("a"), Flow: 1}},
		{frame.Headers, 0, 5, "61 62", Item{Text: []byte("ab")}},
		{frame.Headers, 1, 5, "61 62", Item{Text: []byte("ab"), End: true}},
		{frame.Headers, 4, 5, "61 62", Item{Text: []byte("ab"), EndHeaders: true}},
		{frame.Headers, 8, 5, "02 61 62 00 00", Item{Text: []byte("ab")}},
		{frame.Headers, 32, 5, "80 00 00 03 0f 61", Item{Text: []byte("a"), Weighed: true, Exclusive: true, Depends: 3, Weight: 16}},
		{frame.Headers, 32, 5, "7f ff ff ff ff", Item{Weighed: true, Depends: api.MaxStream, Weight: 256}},
		{frame.Headers, 45, 5, "01 00 00 00 00 00 61 00", Item{Text: []byte("a"), Weighed: true, Weight: 1, End: true, EndHeaders: true}},
		{frame.Headers, 40, 5, "00 00 00 00 00 ff", Item{Weighed: true, Weight: 256}},
		{frame.Priority, 0, 5, "80 00 00 03 ff", Item{Weighed: true, Exclusive: true, Depends: 3, Weight: 256}},
		{frame.Priority, 255, 5, "00 00 00 00 00", Item{Weighed: true, Weight: 1}},
		{frame.Reset, 0, 5, "00 00 00 08", Item{Code: 8}},
		{frame.Reset, 255, 5, "ff ff ff ff", Item{Code: 1<<32 - 1}},
		{frame.Settings, 0, 0, "", Item{}},
		{frame.Settings, 1, 0, "", Item{Ack: true}},
		{frame.Settings, 0, 0, "00 01 00 00 10 00  ff ff ff ff ff ff", Item{Pairs: [][2]int{{1, 4096}, {65535, 1<<32 - 1}}}},
		{frame.Settings, 254, 0, "00 04 00 00 00 00", Item{Pairs: [][2]int{{4, 0}}}},
		{frame.Ping, 0, 0, eightBytes, Item{Text: []byte("abcdefgh")}},
		{frame.Ping, 1, 0, eightBytes, Item{Text: []byte("abcdefgh"), Ack: true}},
		{frame.Goaway, 0, 0, "ff ff ff ff 00 00 00 02", Item{Last: api.MaxStream, Code: 2}},
		{frame.Goaway, 0, 0, "00 00 00 07 80 00 00 00 68 69", Item{Last: 7, Code: 1 << 31, Text: []byte("hi")}},
		{frame.Update, 0, 0, "80 00 00 01", Item{Increment: 1}},
		{frame.Update, 0, 6, "7f ff ff ff", Item{Increment: api.MaxWindow}},
		{frame.Continuation, 0, 5, "61", Item{Text: []byte("a")}},
		{frame.Continuation, 12, 5, "", Item{EndHeaders: true}},
		{10, 255, 0, "61", Item{}},
		{250, 255, 5, "", Item{}},
		{-1, 255, 5, "61", Item{}},
	} {
		c.want.Type, c.want.Stream = c.kind, c.stream
		got, fault := Parse(frame.Frame{Type: c.kind, Flags: c.flags, Stream: c.stream, Payload: unhex(c.payload)})
		if !got.Equal(c.want) || fault != none {
			t.Errorf("%d, %x, %d, %s: %+v, %v", c.kind, c.flags, c.stream, c.payload, got, fault)
		}
	}
}

// P10.1: faults, and which one is told first.
func TestFaults(t *testing.T) {
	for _, c := range []struct {
		kind, flags, stream int
		payload             string
		want                Fault
	}{
		{frame.Data, 0, 0, "61", connProto},
		{frame.Data, 8, 0, "", connProto},
		{frame.Headers, 4, 0, "61", connProto},
		{frame.Priority, 0, 0, "61", connProto},
		{frame.Reset, 0, 0, "61", connProto},
		{frame.Settings, 0, 1, "61", connProto},
		{frame.Promise, 0, 1, "00 00 00 02", connProto},
		{frame.Promise, 0, 0, "", connProto},
		{frame.Ping, 0, 1, eightBytes, connProto},
		{frame.Ping, 0, 1, "61", connProto},
		{frame.Goaway, 0, 1, "61", connProto},
		{frame.Continuation, 0, 0, "61", connProto},
		{frame.Settings, 0, 0, "61", connSize},
		{frame.Settings, 0, 0, "00 01 00 00 10 00 00", connSize},
		{frame.Settings, 1, 0, "00 01 00 00 10 00", connSize},
		{frame.Ping, 0, 0, "61 62 63 64 65 66 67", connSize},
		{frame.Ping, 1, 0, eightBytes + "69", connSize},
		{frame.Ping, 0, 0, "", connSize},
		{frame.Goaway, 0, 0, "61 62 63 64 65 66 67", connSize},
		{frame.Update, 0, 0, "00 00 00", connSize},
		{frame.Update, 0, 5, "00 00 00 00 00", connSize},
		{frame.Reset, 0, 5, "00 00 00", connSize},
		{frame.Reset, 0, 5, "00 00 00 00 00", connSize},
		{frame.Data, 8, 5, "", connSize},
		{frame.Headers, 8, 5, "", connSize},
		{frame.Headers, 32, 5, "00 00 00 05", connSize},
		{frame.Headers, 40, 5, "ff 00 00 00 05", connSize},
		{frame.Headers, 40, 5, "00 00 00 00 05", connSize},
		{frame.Data, 8, 5, "01", connProto},
		{frame.Data, 8, 5, "04 01 02 03", connProto},
		{frame.Headers, 8, 5, "03 01 02", connProto},
		{frame.Headers, 40, 5, "01 00 00 00 05 01", connProto}, // the padding's fault ahead of its own stream's
		{frame.Headers, 40, 5, "02 00 00 00 00 01 61", connProto},
		{frame.Headers, 32, 5, "00 00 00 05 01", strmProto},
		{frame.Headers, 32, 5, "80 00 00 05 01", strmProto},
		{frame.Headers, 40, 5, "00 00 00 00 05 01", strmProto},
		{frame.Priority, 0, 5, "00 00 00 05", strmSize},
		{frame.Priority, 0, 5, "00 00 00 05 01 02", strmSize},
		{frame.Priority, 0, 5, "", strmSize},
		{frame.Priority, 0, 5, "80 00 00 05 01", strmProto},
		{frame.Update, 0, 5, "00 00 00 00", strmProto},
		{frame.Update, 0, 5, "80 00 00 00", strmProto},
		{frame.Update, 0, 0, "00 00 00 00", connProto},
	} {
		b := unhex(c.payload)
		want := Item{Type: c.kind, Stream: c.stream}
		if c.kind == frame.Data {
			want.Flow = len(b)
		}
		got, fault := Parse(frame.Frame{Type: c.kind, Flags: c.flags, Stream: c.stream, Payload: b})
		if !got.Equal(want) || fault != c.want {
			t.Errorf("%d, %x, %d, %s: %+v, %v, not %v", c.kind, c.flags, c.stream, c.payload, got, fault, c.want)
		}
		if fault.OK() {
			t.Errorf("OK of %v", fault)
		}
	}
}

// P10.2
func TestOK(t *testing.T) {
	if !(Fault{}).OK() || (Fault{Conn: true}).OK() || (Fault{Code: api.NoError}).OK() || (Fault{Code: 1, Conn: true}).OK() {
		t.Errorf("OK")
	}
}

// P10.2
func TestEqual(t *testing.T) {
	whole := func() Item {
		return Item{1, 2, []byte("a"), true, true, true, 3, 4, 5, 6, 7, 8, true, true, [][2]int{{9, 10}}}
	}
	if x := whole(); !x.Equal(whole()) {
		t.Errorf("an item is another one than itself")
	}
	for i, change := range []func(x *Item){
		func(x *Item) { x.Type = 0 }, func(x *Item) { x.Stream = 0 }, func(x *Item) { x.Text = nil }, func(x *Item) { x.Text = []byte("b") },
		func(x *Item) { x.End = false }, func(x *Item) { x.EndHeaders = false }, func(x *Item) { x.Ack = false }, func(x *Item) { x.Flow = 0 },
		func(x *Item) { x.Code = 0 }, func(x *Item) { x.Last = 0 }, func(x *Item) { x.Increment = 0 }, func(x *Item) { x.Depends = 0 },
		func(x *Item) { x.Weight = 0 }, func(x *Item) { x.Weighed = false }, func(x *Item) { x.Exclusive = false }, func(x *Item) { x.Pairs = nil },
		func(x *Item) { x.Pairs = [][2]int{{9, 11}} }, func(x *Item) { x.Pairs = append(x.Pairs, [2]int{}) }, func(x *Item) { x.Type, x.Stream = 2, 1 },
	} {
		x, y := whole(), whole()
		change(&y)
		if x.Equal(y) || y.Equal(x) {
			t.Errorf("change %d isn't seen", i)
		}
	}
	if !(Item{}).Equal(Item{Text: []byte{}, Pairs: [][2]int{}}) {
		t.Errorf("nil and empty are not one")
	}
}

// P10.2
func TestKnown(t *testing.T) {
	for kind := -3; kind < 300; kind++ {
		if Known(kind) != (kind >= 0 && kind <= 9) {
			t.Errorf("Known(%d): %v", kind, Known(kind))
		}
	}
}

// The rule on memory.
func TestShares(t *testing.T) {
	for _, f := range []frame.Frame{
		{Type: frame.Data, Stream: 1, Payload: []byte("abcdefgh")}, {Type: frame.Headers, Stream: 1, Payload: []byte("abcdefgh")},
		{Type: frame.Ping, Payload: []byte("abcdefgh")}, {Type: frame.Goaway, Payload: []byte("abcdefghijkl")}, {Type: frame.Continuation, Stream: 1, Payload: []byte("abcdefgh")},
		{Type: frame.Data, Flags: 8, Stream: 1, Payload: []byte("\x01abcdefg")},
	} {
		want := bytes.Clone(f.Payload)
		x, _ := Parse(f)
		x.Text[0] = 'z'
		_ = append(x.Text, 'y')
		if !bytes.Equal(f.Payload, want) {
			t.Errorf("the argument was changed: %q", f.Payload)
		}
	}
}

// FuzzParse: whatever comes, a call ends, and beside a fault there is nothing.
func FuzzParse(f *testing.F) {
	f.Add(1, 40, 5, []byte{0, 0, 0, 0, 5, 1})
	f.Fuzz(func(t *testing.T, kind, flags, stream int, b []byte) {
		x, fault := Parse(frame.Frame{Type: kind, Flags: flags, Stream: stream, Payload: b})
		if x.Type != kind || x.Stream != stream {
			t.Fatalf("%v", x)
		}
		if !fault.OK() && (len(x.Text) > 0 || len(x.Pairs) > 0 || x.Weighed) {
			t.Fatalf("%v beside %v", x, fault)
		}
	})
}
