package outbound

import (
	"bytes"
	"math"
	"math/rand"
	"slices"
	"strings"
	"testing"

	"squint/api"
	"squint/cell"
	"squint/frame"
	"squint/payload"
	"squint/queue"
	"squint/state"
)

func sender(t *testing.T, c Config) *Outbound {
	t.Helper()
	o, e := New(c)
	if e != api.OK {
		t.Fatalf("New(%v): %d", c, e)
	}
	return o
}

// small has two tenants, and cells of 16.
func small(t *testing.T) *Outbound { return sender(t, Config{2, 16, 100000, 100, 10}) }

func item(number int, body int) queue.Item {
	return queue.Item{Number: number, Head: []byte("head"), Body: []byte(strings.Repeat("b", body))}
}

// slot tells what was sent at a tick, and what was done.
func slot(t *testing.T, o *Outbound, tick int) ([]frame.Frame, Did) {
	t.Helper()
	b, did, e := o.Slot(tick)
	if e != api.OK || len(b) != cell.Len(o.config.Cell) {
		t.Fatalf("Slot(%d): %d bytes, %d", tick, len(b), e)
	}
	l, e := cell.Open(b, o.config.Cell)
	if e != api.OK || len(l) > 1 {
		t.Fatalf("Slot(%d): %v, %d", tick, l, e)
	}
	return l, did
}

// expect tells whether at a tick just that is sent and done.
func expect(t *testing.T, o *Outbound, tick int, did Did, l ...frame.Frame) {
	t.Helper()
	got, d := slot(t, o, tick)
	if d != did || !slices.EqualFunc(got, l, frame.Frame.Equal) {
		t.Errorf("Slot(%d): %v, %v, not %v, %v", tick, got, d, l, did)
	}
}

func head(id, flags int) frame.Frame {
	return frame.Frame{Type: frame.Headers, Flags: flags, Stream: id, Payload: []byte("head")}
}

func body(id int, end bool, n, size int) frame.Frame {
	f, _ := cell.Pad(id, []byte(strings.Repeat("b", n)), end, size)
	return f
}

func TestNumbers(t *testing.T) {
	for i, kind := range []int{Nothing, Opened, Sent, Ended, Cut, Gave} {
		if kind != i {
			t.Errorf("kind %d is %d", i, kind)
		}
	}
}

var right = Config{2, 16, 100, 10, 10}

// P24.1
func TestNew(t *testing.T) {
	for _, c := range []Config{right, {1, 16, 0, 1, 1}, {64, 256, 1 << 20, 1 << 12, 1 << 16}} {
		o := sender(t, c)
		if o.Last() != 0 || o.Streams(0) != 0 || o.Queued(0) != 0 || o.Credit(0) == 0 {
			t.Errorf("New(%v)", c)
		}
	}
	for _, change := range []func(c *Config){
		func(c *Config) { c.Tenants = 0 }, func(c *Config) { c.Tenants = 65 }, func(c *Config) { c.Cell = 15 }, func(c *Config) { c.Cell = 257 }, func(c *Config) { c.Bytes = -1 },
		func(c *Config) { c.Bytes = 1<<20 + 1 }, func(c *Config) { c.Items = 0 }, func(c *Config) { c.Items = 1<<12 + 1 }, func(c *Config) { c.Streams = 0 }, func(c *Config) { c.Streams = 1<<16 + 1 },
		func(c *Config) { *c = Config{} }, func(c *Config) { c.Tenants = math.MinInt }, func(c *Config) { c.Cell = math.MaxInt },
	} {
		c := right
		change(&c)
		if o, e := New(c); o != nil || e != api.ErrRange {
			t.Errorf("New(%v): %v, %d", c, o, e)
		}
	}
}

// P24.1
func TestSubmit(t *testing.T) {
	o := sender(t, Config{2, 16, 40, 2, 5})
	for _, c := range []struct {
		tenant, head, body int
		e                  api.Errno
	}{
		{0, 0, 5, api.ErrBig}, {0, 17, 0, api.ErrBig}, {5, 0, 0, api.ErrBig}, {5, 17, 0, api.ErrBig}, {2, 1, 0, api.ErrRange}, {-1, 16, 0, api.ErrRange},
		{0, 16, 25, api.ErrQuota}, {0, 16, 20, api.OK}, {0, 1, 4, api.ErrQuota}, {0, 1, 3, api.OK}, {0, 1, 0, api.ErrQuota}, {1, 16, 24, api.OK},
	} {
		if e := o.Submit(c.tenant, queue.Item{Head: make([]byte, c.head), Body: make([]byte, c.body)}); e != c.e {
			t.Errorf("Submit(%v): %d", c, e)
		}
	}
	if o.Queued(0) != 40 || o.Queued(1) != 40 || o.Queued(2) != 0 || o.Queued(-1) != 0 {
		t.Errorf("Queued: %d, %d", o.Queued(0), o.Queued(1))
	}
}

// P24.1: ticks, and the chapter's example.
func TestTicks(t *testing.T) {
	o := small(t)
	o.Submit(1, item(0, 1))
	for _, tick := range []int{-1, api.MaxTick + 1, math.MinInt, math.MaxInt} {
		if b, did, e := o.Slot(tick); len(b) != 0 || did != (Did{}) || e != api.ErrRange {
			t.Errorf("Slot(%d): %v, %d", tick, did, e)
		}
	}
	expect(t, o, 0, Did{})
	if b, did, e := o.Slot(0); len(b) != 0 || did != (Did{}) || e != api.ErrState {
		t.Errorf("Slot(0) again: %v, %d", did, e)
	}
	expect(t, o, 1, Did{Kind: Opened, Tenant: 1, ID: 3}, head(3, 4))
	if o.Last() != 3 || o.Left(3) != 1 || o.Streams(1) != 1 || o.Queued(1) != 0 {
		t.Errorf("behind that: last %d, left %d", o.Last(), o.Left(3))
	}
	expect(t, o, 2, Did{})
	expect(t, o, 3, Did{Kind: Ended, Tenant: 1, ID: 3, N: 1}, body(3, true, 1, 16))
	expect(t, o, 5, Did{Tenant: 1})
	if _, _, e := o.Slot(4); e != api.ErrState {
		t.Errorf("Slot(4): %d", e)
	}
	expect(t, o, api.MaxTick, Did{Tenant: 1})
	if _, _, e := o.Slot(api.MaxTick); e != api.ErrState {
		t.Errorf("the last one again: %d", e)
	}
}

// P24.1: a body in cells, and one that is none; numbers.
func TestBodies(t *testing.T) {
	o := sender(t, Config{1, 16, 1000, 10, 10})
	o.Submit(0, item(7, 31))
	o.Submit(0, item(-8, 0))
	o.Submit(0, item(9, 15))
	credit := o.Credit(0)
	expect(t, o, 0, Did{Kind: Opened, ID: 1, Number: 7}, head(1, 4))
	expect(t, o, 1, Did{Kind: Sent, ID: 1, Number: 7, N: 15}, body(1, false, 15, 16))
	if o.Left(1) != 16 || o.Credit(0) != credit-16 {
		t.Errorf("left %d, credit %d", o.Left(1), o.Credit(0))
	}
	expect(t, o, 2, Did{Kind: Sent, ID: 1, Number: 7, N: 15}, body(1, false, 15, 16))
	expect(t, o, 3, Did{Kind: Ended, ID: 1, Number: 7, N: 1}, body(1, true, 1, 16))
	expect(t, o, 4, Did{Kind: Ended, ID: 9, Number: -8}, head(9, 5))
	expect(t, o, 5, Did{Kind: Opened, ID: 11, Number: 9}, head(11, 4))
	expect(t, o, 6, Did{Kind: Ended, ID: 11, Number: 9, N: 15}, body(11, true, 15, 16))
	expect(t, o, 7, Did{})
	if o.Credit(0) != credit-64 || o.Streams(0) != 3 || o.Left(1)+o.Left(9)+o.Left(11) != 0 {
		t.Errorf("credit %d, %d streams", o.Credit(0), o.Streams(0))
	}
	for id, number := range map[int]int{1: 7, 9: -8, 11: 9} {
		if tenant, n, e := o.Live(id); tenant != 0 || n != number || e != api.OK {
			t.Errorf("Live(%d): %d, %d, %d", id, tenant, n, e)
		}
		// we ended: they may go on, and end
		if e, fault := o.Get(id, state.GetHeaders); e != api.OK || !fault.OK() {
			t.Errorf("Get(%d): %d, %v", id, e, fault)
		}
		if e, fault := o.Get(id, state.GetEnd); e != api.OK || !fault.OK() {
			t.Errorf("Get(%d): %d, %v", id, e, fault)
		}
		if _, _, e := o.Live(id); e != api.ErrNone {
			t.Errorf("Live(%d) behind its end: %d", id, e)
		}
	}
	if o.Streams(0) != 0 {
		t.Errorf("%d streams", o.Streams(0))
	}
}

// P24.1: what comes first: cuts, gifts, bodies by their streams' numbers, items.
func TestOrder(t *testing.T) {
	o := sender(t, Config{1, 16, 1000, 10, 10})
	// two streams, the first one's window shut till the second one is opened
	o.First(0)
	o.Submit(0, item(0, 20))
	o.Submit(0, item(1, 20))
	expect(t, o, 0, Did{Kind: Opened, ID: 1, Number: 0}, head(1, 4))
	expect(t, o, 1, Did{Kind: Opened, ID: 3, Number: 1}, head(3, 4))
	expect(t, o, 2, Did{})
	o.Submit(0, item(2, 0))
	o.Submit(0, item(3, 0))
	o.Grant(3, 16)
	expect(t, o, 3, Did{Kind: Sent, ID: 3, Number: 1, N: 15}, body(3, false, 15, 16))
	o.Grant(3, 15)
	expect(t, o, 4, Did{Kind: Ended, ID: 9, Number: 2}, head(9, 5)) // a window of 15 is none
	o.Grant(3, 1)
	o.Grant(1, 16)
	o.Give(3, 5)
	o.Give(1, 7)
	o.Give(3, 6)
	o.Reset(9, api.Cancel)
	expect(t, o, 5, Did{Kind: Cut, ID: 9}, frame.Frame{Type: frame.Reset, Stream: 9, Payload: []byte{0, 0, 0, 8}})
	expect(t, o, 6, Did{Kind: Gave, ID: 3, N: 11}, frame.Frame{Type: frame.Update, Stream: 3, Payload: []byte{0, 0, 0, 11}})
	expect(t, o, 7, Did{Kind: Gave, ID: 1, N: 7}, frame.Frame{Type: frame.Update, Stream: 1, Payload: []byte{0, 0, 0, 7}})
	expect(t, o, 8, Did{Kind: Sent, ID: 1, Number: 0, N: 15}, body(1, false, 15, 16))
	expect(t, o, 9, Did{Kind: Ended, ID: 3, Number: 1, N: 5}, body(3, true, 5, 16))
	expect(t, o, 10, Did{Kind: Ended, ID: 21, Number: 3}, head(21, 5))
	expect(t, o, 11, Did{})
	if o.Left(1) != 5 {
		t.Errorf("left %d", o.Left(1))
	}
}

// P24.1: the tenant's credit.
func TestCredit(t *testing.T) {
	o := sender(t, Config{64, 256, 100000, 10, 10})
	// the tenant 63 has 1023: three cells
	o.Submit(63, item(0, 2000))
	tick := 63
	expect(t, o, tick, Did{Kind: Opened, Tenant: 63, ID: 127}, head(127, 4))
	for range 3 {
		tick += 64
		expect(t, o, tick, Did{Kind: Sent, Tenant: 63, ID: 127, N: 255}, body(127, false, 255, 256))
	}
	if o.Credit(63) != 255 || o.Credit(0) != 1024 || o.Credit(64) != 0 || o.Credit(-1) != 0 {
		t.Errorf("Credit: %d, %d", o.Credit(63), o.Credit(0))
	}
	expect(t, o, tick+64, Did{Tenant: 63})
	if fault := o.Grant(0, 64); !fault.OK() || o.Credit(63) != 256 {
		t.Errorf("Grant: %v, %d", fault, o.Credit(63))
	}
	expect(t, o, tick+128, Did{Kind: Sent, Tenant: 63, ID: 127, N: 255}, body(127, false, 255, 256))
	// without credit, an item goes all the same
	o.Submit(63, item(1, 1))
	expect(t, o, tick+192, Did{Kind: Opened, Tenant: 63, ID: 2*(tick+192) + 1, Number: 1}, head(2*(tick+192)+1, 4))
}

// P24.1, P24.3: the limit.
func TestLimit(t *testing.T) {
	o := sender(t, Config{1, 16, 1000, 10, 3})
	for n := range 8 {
		o.Submit(0, item(n, 0))
	}
	tick := 0
	opens := func(want bool) {
		t.Helper()
		_, did := slot(t, o, tick)
		if (did.Kind == Ended) != want {
			t.Errorf("tick %d: %v", tick, did)
		}
		tick++
	}
	o.Limit(1)
	opens(true)
	opens(false)
	o.Limit(2)
	opens(true)
	opens(false)
	o.Limit(100)
	opens(true)
	opens(false) // three are as many as Streams
	o.Get(1, state.GetEnd)
	o.Limit(-5)
	opens(false)
	o.Limit(0)
	opens(false)
	o.Limit(2)
	opens(false)
	o.Limit(math.MaxInt)
	opens(true)
	opens(false)
	o.Limit(math.MinInt)
	o.Get(5, state.GetReset)
	opens(false)
	if o.Streams(0) != 2 || o.Streams(1) != 0 || o.Streams(-1) != 0 {
		t.Errorf("%d streams", o.Streams(0))
	}
}

// P24.2
func TestNotLive(t *testing.T) {
	o := small(t)
	o.Submit(0, item(0, 0))
	slot(t, o, 0)
	o.Get(1, state.GetEnd)
	for _, id := range []int{0, 1, 2, 3, -1, math.MinInt, math.MaxInt} {
		if e, fault := o.Get(id, state.GetData); e != api.ErrNone || !fault.OK() {
			t.Errorf("Get(%d): %d, %v", id, e, fault)
		}
		if e := o.Reset(id, api.Cancel); e != api.ErrNone {
			t.Errorf("Reset(%d): %d", id, e)
		}
		if tenant, number, e := o.Live(id); tenant != 0 || number != 0 || e != api.ErrNone {
			t.Errorf("Live(%d): %d, %d, %d", id, tenant, number, e)
		}
		if o.Left(id) != 0 {
			t.Errorf("Left(%d): %d", id, o.Left(id))
		}
		if e := o.Give(id, 1); e != api.ErrNone {
			t.Errorf("Give(%d): %d", id, e)
		}
		if e := o.Give(id, 0); e != api.ErrNone {
			t.Errorf("Give(%d, 0): %d", id, e)
		}
		if fault := o.Grant(id, -5); id != 0 && !fault.OK() {
			t.Errorf("Grant(%d): %v", id, fault)
		}
	}
	expect(t, o, 2, Did{})
}

// P24.2
func TestGetAndReset(t *testing.T) {
	o := small(t)
	for n := range 3 {
		o.Submit(0, item(n, 40))
	}
	for tick := range 5 {
		slot(t, o, tick)
	}
	// the stream 1 was opened at 0; its body goes ahead of the other items
	if e, fault := o.Get(1, state.GetData); e != api.OK || !fault.OK() {
		t.Errorf("GetData: %d, %v", e, fault)
	}
	if e, fault := o.Get(1, 77); e != api.ErrRange || !fault.OK() {
		t.Errorf("no event: %d, %v", e, fault)
	}
	if e, fault := o.Get(1, state.GetEnd); e != api.OK || !fault.OK() || o.Left(1) != 10 {
		t.Errorf("GetEnd: %d, %v", e, fault)
	}
	o.Give(1, 9)
	// they ended: we end, and it is forgotten, with its gift
	expect(t, o, 6, Did{Kind: Gave, ID: 1, N: 9}, frame.Frame{Type: frame.Update, Stream: 1, Payload: []byte{0, 0, 0, 9}})
	expect(t, o, 8, Did{Kind: Ended, ID: 1, N: 10}, body(1, true, 10, 16))
	if _, _, e := o.Live(1); e != api.ErrNone || o.Streams(0) != 0 {
		t.Errorf("Live(1): %d", e)
	}
	expect(t, o, 10, Did{Kind: Opened, ID: 21, Number: 1}, head(21, 4))
	o.Give(21, 5)
	if e, fault := o.Get(21, state.GetReset); e != api.OK || !fault.OK() || o.Left(21) != 0 {
		t.Errorf("GetReset: %d, %v", e, fault)
	}
	expect(t, o, 12, Did{Kind: Opened, ID: 25, Number: 2}, head(25, 4))
	o.Give(25, 5)
	if e := o.Reset(25, api.FlowControl); e != api.OK || o.Streams(0) != 0 {
		t.Errorf("Reset: %d", e)
	}
	if e := o.Reset(25, api.FlowControl); e != api.ErrNone {
		t.Errorf("Reset again: %d", e)
	}
	expect(t, o, 14, Did{Kind: Cut, ID: 25}, frame.Frame{Type: frame.Reset, Stream: 25, Payload: []byte{0, 0, 0, 3}})
	expect(t, o, 16, Did{})
	// a fault of the stream closes it too
	o.Submit(0, item(3, 0))
	slot(t, o, 18)
	o.Submit(0, item(4, 40))
	slot(t, o, 20)
	o.Get(41, state.GetEnd)
	if e, fault := o.Get(41, state.GetData); e != api.OK || fault != (payload.Fault{Code: api.Closed}) || o.Left(41) != 0 {
		t.Errorf("shut: %d, %v", e, fault)
	}
	expect(t, o, 22, Did{})
}

// P24.1: cuts stand in the order in which they came, each in its own tenant's slot.
func TestCuts(t *testing.T) {
	o := small(t)
	for n := range 3 {
		o.Submit(0, item(n, 0))
		o.Submit(1, item(n, 0))
	}
	for tick := range 6 {
		slot(t, o, tick)
	}
	for _, id := range []int{5, 3, 1, 9} {
		o.Reset(id, api.Protocol)
	}
	reset := func(id int) frame.Frame {
		return frame.Frame{Type: frame.Reset, Stream: id, Payload: []byte{0, 0, 0, 1}}
	}
	expect(t, o, 6, Did{Kind: Cut, ID: 5}, reset(5))
	expect(t, o, 7, Did{Kind: Cut, Tenant: 1, ID: 3}, reset(3))
	expect(t, o, 8, Did{Kind: Cut, ID: 1}, reset(1))
	expect(t, o, 9, Did{Tenant: 1})
	expect(t, o, 10, Did{Kind: Cut, ID: 9}, reset(9))
	expect(t, o, 12, Did{})
}

// P24.3
func TestGrant(t *testing.T) {
	conn := payload.Fault{Code: api.FlowControl, Conn: true}
	strm := payload.Fault{Code: api.FlowControl}
	o := small(t)
	o.Submit(0, item(0, 40))
	slot(t, o, 0)
	for _, n := range []int{0, -1, api.MaxWindow + 1, api.MaxWindow, math.MinInt, math.MaxInt} {
		if fault := o.Grant(0, n); fault != conn || o.Credit(0) != 32768 {
			t.Errorf("Grant(0, %d): %v, %d", n, fault, o.Credit(0))
		}
		if fault := o.Grant(1, n); fault != strm {
			t.Errorf("Grant(1, %d): %v", n, fault)
		}
		if fault := o.Grant(3, n); !fault.OK() {
			t.Errorf("Grant(3, %d): %v", n, fault)
		}
	}
	if fault := o.Grant(1, api.MaxWindow-api.Window0); !fault.OK() {
		t.Errorf("up to the most: %v", fault)
	}
	if fault := o.Grant(1, 1); fault != strm {
		t.Errorf("above it: %v", fault)
	}
	if _, _, e := o.Live(1); e != api.OK {
		t.Errorf("a fault alone closes nothing: %d", e)
	}
	if fault := o.Grant(0, 3); !fault.OK() || o.Credit(0) != 32770 || o.Credit(1) != 32768 {
		t.Errorf("Grant(0, 3): %v, %d, %d", fault, o.Credit(0), o.Credit(1))
	}
}

// P24.3
func TestGive(t *testing.T) {
	o := small(t)
	o.Submit(0, item(0, 0))
	slot(t, o, 0)
	for _, n := range []int{0, -1, api.MaxWindow + 1, math.MinInt, math.MaxInt} {
		if e := o.Give(1, n); e != api.ErrRange {
			t.Errorf("Give(1, %d): %d", n, e)
		}
	}
	expect(t, o, 2, Did{})
	for range 3 {
		if e := o.Give(1, api.MaxWindow); e != api.OK {
			t.Errorf("Give: %d", e)
		}
	}
	expect(t, o, 4, Did{Kind: Gave, ID: 1, N: api.MaxWindow}, frame.Frame{Type: frame.Update, Stream: 1, Payload: []byte{0x7f, 255, 255, 255}})
	expect(t, o, 6, Did{})
	o.Give(1, 1)
	expect(t, o, 8, Did{Kind: Gave, ID: 1, N: 1}, frame.Frame{Type: frame.Update, Stream: 1, Payload: []byte{0, 0, 0, 1}})
}

// P24.3
func TestFirst(t *testing.T) {
	conn := payload.Fault{Code: api.FlowControl, Conn: true}
	o := sender(t, Config{1, 16, 1000, 10, 10})
	for _, n := range []int{-1, api.MaxWindow + 1, math.MinInt, math.MaxInt} {
		if fault := o.First(n); fault != conn {
			t.Errorf("First(%d): %v", n, fault)
		}
	}
	if fault := o.First(20); !fault.OK() {
		t.Errorf("First(20): %v", fault)
	}
	o.Submit(0, item(0, 100))
	expect(t, o, 0, Did{Kind: Opened, ID: 1}, head(1, 4))
	expect(t, o, 1, Did{Kind: Sent, ID: 1, N: 15}, body(1, false, 15, 16))
	expect(t, o, 2, Did{}) // 4 are left
	o.First(10)            // -6
	o.Grant(1, 21)         // 15
	expect(t, o, 3, Did{})
	o.First(11) // 16
	expect(t, o, 4, Did{Kind: Sent, ID: 1, N: 15}, body(1, false, 15, 16))
	// one window that can't be shifted, and all stay
	o.Submit(0, item(1, 100))
	expect(t, o, 5, Did{Kind: Opened, ID: 11, Number: 1}, head(11, 4))
	o.Grant(11, api.MaxWindow-11)
	if fault := o.First(27); fault != conn {
		t.Errorf("First(27): %v", fault)
	}
	o.Grant(1, 15)
	expect(t, o, 6, Did{Kind: Sent, ID: 11, Number: 1, N: 15}, body(11, false, 15, 16)) // 1 has 15
	if fault := o.First(27); !fault.OK() {
		t.Errorf("First(27): %v", fault)
	}
	expect(t, o, 7, Did{Kind: Sent, ID: 1, N: 15}, body(1, false, 15, 16)) // 31
}

// P24.4
func TestFail(t *testing.T) {
	o := small(t)
	for n := range 5 {
		o.Submit(0, item(n, 30))
		o.Submit(1, item(10+n, 0))
	}
	for tick := range 8 {
		slot(t, o, tick)
	}
	// live: 1 (Ended at 4), 13 of the tenant 0; 3, 7, 11, 15 of the tenant 1
	o.Give(13, 5)
	o.Reset(3, api.Cancel)
	o.Reset(15, api.Cancel)
	want := []Did{{Tenant: 1, ID: 11, Number: 12}, {Tenant: 0, ID: 13, Number: 1}}
	if got := o.Fail(7); !slices.Equal(got, want) || o.Streams(0) != 1 || o.Streams(1) != 1 {
		t.Errorf("Fail(7): %v", got)
	}
	if got := o.Fail(7); len(got) != 0 {
		t.Errorf("Fail(7) again: %v", got)
	}
	if o.Last() != 15 || o.Queued(0) == 0 || o.Left(13) != 0 {
		t.Errorf("last %d, %d wait", o.Last(), o.Queued(0))
	}
	// without a gift, and with the cuts that were there
	expect(t, o, 8, Did{Kind: Opened, ID: 17, Number: 2}, head(17, 4))
	expect(t, o, 9, Did{Kind: Cut, Tenant: 1, ID: 3}, frame.Frame{Type: frame.Reset, Stream: 3, Payload: []byte{0, 0, 0, 8}})
	o.Give(17, 5)
	want = []Did{{ID: 1, Number: 0}, {Tenant: 1, ID: 7, Number: 11}, {ID: 17, Number: 2}, {Number: 3}, {Number: 4}, {Tenant: 1, Number: 14}}
	if got := o.Fail(-1); !slices.Equal(got, want) {
		t.Errorf("Fail(-1): %v", got)
	}
	if o.Streams(0)+o.Streams(1)+o.Queued(0)+o.Queued(1) != 0 {
		t.Errorf("something is left")
	}
	for tick := 10; tick < 16; tick++ {
		expect(t, o, tick, Did{Tenant: tick % 2})
	}
	if got := o.Fail(math.MinInt); len(got) != 0 {
		t.Errorf("Fail again: %v", got)
	}
	if o.Last() != 17 {
		t.Errorf("Last: %d", o.Last())
	}
	// 0 is not below 0
	o.Submit(0, item(50, 5))
	o.Submit(0, item(51, 5))
	slot(t, o, 16)
	if got := o.Fail(0); !slices.Equal(got, []Did{{ID: 33, Number: 50}}) || o.Queued(0) != 9 {
		t.Errorf("Fail(0): %v", got)
	}
	if got := o.Fail(math.MaxInt); len(got) != 0 {
		t.Errorf("Fail of none: %v", got)
	}
}

// P24.4
func TestEmpty(t *testing.T) {
	o := small(t)
	o.Submit(1, item(5, 1))
	o.Submit(0, item(6, 2))
	o.Submit(1, item(7, 3))
	slot(t, o, 1)
	if got := o.Empty(); !slices.Equal(got, []Did{{Number: 6}, {Tenant: 1, Number: 7}}) || o.Queued(0)+o.Queued(1) != 0 || o.Streams(1) != 1 {
		t.Errorf("Empty: %v", got)
	}
	if got := o.Empty(); len(got) != 0 {
		t.Errorf("Empty again: %v", got)
	}
	expect(t, o, 3, Did{Kind: Ended, Tenant: 1, ID: 3, Number: 5, N: 1}, body(3, true, 1, 16))
}

// The rule on memory.
func TestShares(t *testing.T) {
	o := sender(t, Config{1, 16, 1000, 10, 10})
	x := item(0, 5)
	o.Submit(0, x)
	clear(x.Head)
	clear(x.Body)
	b, _, _ := o.Slot(0)
	clear(b)
	expect(t, o, 1, Did{Kind: Ended, ID: 1, N: 5}, body(1, true, 5, 16))
}

// step does something by chance, for one tenant, and tells what came of it.
func step(r *rand.Rand, o *Outbound, tenant, tick int) []int {
	id := 2*(tenant+o.config.Tenants*r.Intn(tick/o.config.Tenants+1)) + 1
	n := r.Intn(60)
	switch r.Intn(7) {
	case 0, 1:
		return []int{int(o.Submit(tenant, item(n, n)))}
	case 2:
		e, fault := o.Get(id, state.GetHeaders+state.Event(n%5))
		return []int{int(e), int(fault.Code)}
	case 3:
		return []int{int(o.Reset(id, api.Cancel))}
	case 4:
		return []int{int(o.Give(id, n))}
	case 5:
		return []int{int(o.Grant(id, n).Code)}
	}
	_, number, e := o.Live(id)
	return []int{o.Left(id), number, int(e), o.Streams(tenant), o.Queued(tenant), o.Credit(tenant)}
}

// P24.4: a tenant's slots are the same, whatever the others do.
func TestTenantsStandAlone(t *testing.T) {
	for seed := range int64(60) {
		c := Config{3, 16, 200, 4, 3}
		a, b := sender(t, c), sender(t, c)
		mine, also, others := rand.New(rand.NewSource(seed)), rand.New(rand.NewSource(seed)), rand.New(rand.NewSource(seed+1000))
		conn := rand.New(rand.NewSource(seed + 2000))
		a.First(40)
		b.First(40)
		for tick := range 300 {
			for range 2 {
				if x, y := step(mine, a, 1, tick), step(also, b, 1, tick); !slices.Equal(x, y) {
					t.Fatalf("seed %d, tick %d: %v and %v", seed, tick, x, y)
				}
			}
			step(others, a, 2*others.Intn(2), tick) // in one alone
			switch n := conn.Intn(100); conn.Intn(12) {
			case 0:
				a.Grant(0, n)
				b.Grant(0, n)
			case 1:
				if x, y := a.First(n), b.First(n); x != y {
					t.Fatalf("First(%d): %v and %v", n, x, y)
				}
			case 2:
				a.Limit(n / 20)
				b.Limit(n / 20)
			}
			x, did, _ := a.Slot(tick)
			y, also, _ := b.Slot(tick)
			if tick%3 == 1 && (!bytes.Equal(x, y) || did != also) {
				t.Fatalf("seed %d, tick %d: %v and %v", seed, tick, did, also)
			}
			if len(x) != cell.Len(16) {
				t.Fatalf("a slot of %d bytes", len(x))
			}
		}
	}
}
