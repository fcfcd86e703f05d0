package endpoint

import (
	"squint/api"
	"squint/frame"
	"squint/inbound"
	"squint/octet"
	"squint/outbound"
	"squint/payload"
	"squint/request"
	"squint/settings"
	"squint/state"
	"squint/window"
)

const (
	// half is how much of a window is used, till it is given back.
	half = (api.Window0 + 1) / 2
	// mostCode is the greatest code that is delivered.
	mostCode = 1<<31 - 1
)

// heard is what came of a live stream.
type heard struct {
	state state.State // as far as it is theirs: Open, till they end; then Ours
	final bool        // a final response came
	owed  int         // how many bytes came that weren't given back
}

// of tells what came of a live stream.
func (x *Endpoint) of(id int) *heard {
	h := x.heard[id]
	if h == nil {
		h = &heard{state: state.Open}
		x.heard[id] = h
	}
	return h
}

// done tells whether Done was delivered of a live stream.
func (x *Endpoint) done(id int) bool {
	h := x.heard[id]
	return h != nil && h.state == state.Ours
}

// live tells whether the sender has a stream.
func (x *Endpoint) live(id int) bool {
	_, _, e := x.sender.Live(id)
	return e == api.OK
}

// settle forgets what came of a stream that isn't live any more.
func (x *Endpoint) settle(id int) {
	if !x.live(id) {
		delete(x.heard, id)
	}
}

// idle tells whether a stream was never opened.
func (x *Endpoint) idle(id int) bool { return id%2 == 0 || id > x.sender.Last() }

// Feed does what the backend says.
func (x *Endpoint) Feed(b []byte) api.Errno {
	if x.dead {
		return api.ErrState
	}
	events, fault := x.reader.Feed(b)
	for _, e := range events {
		do := x.how(e.Kind)
		if code := do(e); code != api.OK {
			return x.die(code)
		}
	}
	if !fault.OK() {
		return x.die(fault.Code)
	}
	return api.OK
}

// how tells what is done with events of a kind, which tells the code of the connection's fault.
func (x *Endpoint) how(kind int) func(inbound.Event) api.Errno {
	switch kind {
	case inbound.Asked:
		return x.onAsked
	case inbound.Ping:
		return x.onPing
	case inbound.Update:
		return x.onUpdate
	case inbound.Head:
		return x.onHead
	case inbound.Body:
		return x.onBody
	case inbound.Reset:
		return x.onReset
	case inbound.Away:
		return x.onAway
	case inbound.Wrong:
		return x.onWrong
	}
	return onOther
}

func onOther(inbound.Event) api.Errno { return api.OK }

func (x *Endpoint) onAsked(e inbound.Event) api.Errno {
	next, change, fault := x.settings.Apply(e.Pairs)
	if !fault.OK() {
		return fault.Code
	}
	x.settings = next
	if change.From != change.To {
		if fault := x.sender.First(change.To); !fault.OK() {
			return fault.Code
		}
	}
	x.sender.Limit(next.Share(x.config.Tenants))
	x.wait(settings.Acknowledge())
	return api.OK
}

func (x *Endpoint) onPing(e inbound.Event) api.Errno {
	x.wait(frame.Frame{Type: frame.Ping, Flags: payload.Ack, Payload: e.Text})
	return api.OK
}

func (x *Endpoint) onUpdate(e inbound.Event) api.Errno {
	if e.Stream != 0 && x.idle(e.Stream) {
		return api.Protocol
	}
	fault := x.sender.Grant(e.Stream, e.N)
	if fault.Conn {
		return fault.Code
	}
	if !fault.OK() {
		x.breakOff(e.Stream, fault.Code)
	}
	return api.OK
}

func (x *Endpoint) onHead(e inbound.Event) api.Errno {
	if x.idle(e.Stream) {
		return api.Protocol
	}
	if x.live(e.Stream) {
		x.head(e)
	}
	return api.OK
}

func (x *Endpoint) onBody(e inbound.Event) api.Errno {
	if code := x.came(e.N); code != api.OK {
		return code
	}
	if x.idle(e.Stream) {
		return api.Protocol
	}
	if x.live(e.Stream) {
		x.body(e)
	}
	return api.OK
}

func (x *Endpoint) onReset(e inbound.Event) api.Errno {
	if x.idle(e.Stream) {
		return api.Protocol
	}
	tenant, number, gone := x.sender.Live(e.Stream)
	if gone != api.OK {
		return api.OK
	}
	code := api.NoError + api.Errno(e.Code)
	if code > mostCode {
		code = api.Internal
	}
	done := x.done(e.Stream)
	x.sender.Get(e.Stream, state.GetReset)
	x.settle(e.Stream)
	if !done {
		x.deliver(tenant, Delivery{Number: number, Kind: Failed, Code: code})
	}
	return api.OK
}

func (x *Endpoint) onAway(e inbound.Event) api.Errno {
	x.away = true
	x.fail(x.sender.Fail(e.N), api.Refused)
	x.fail(x.sender.Empty(), api.Refused)
	return api.OK
}

func (x *Endpoint) onWrong(e inbound.Event) api.Errno {
	if code := x.came(e.N); code != api.OK {
		return code
	}
	if x.idle(e.Stream) {
		return api.Protocol
	}
	x.breakOff(e.Stream, api.Errno(e.Code))
	return api.OK
}

// came counts n more bytes of the connection, whosoever's they are.
func (x *Endpoint) came(n int) api.Errno {
	x.owed += n
	if x.owed > api.Window0 {
		return api.FlowControl
	}
	if back := window.Owed(x.owed, 0, half); back > 0 {
		x.wait(frame.Frame{Type: frame.Update, Payload: octet.Big(uint64(back), 4)})
		x.owed -= back
	}
	return api.OK
}

// breakOff resets a live stream.
func (x *Endpoint) breakOff(id int, code api.Errno) {
	tenant, number, gone := x.sender.Live(id)
	if gone != api.OK {
		return
	}
	done := x.done(id)
	x.sender.Reset(id, code)
	x.settle(id)
	if !done {
		x.deliver(tenant, Delivery{Number: number, Kind: Failed, Code: code})
	}
}

// fail tells tenants that what the sender forgot failed.
func (x *Endpoint) fail(l []outbound.Did, code api.Errno) {
	for _, did := range l {
		if !x.done(did.ID) {
			x.deliver(did.Tenant, Delivery{Number: did.Number, Kind: Failed, Code: code})
		}
		x.settle(did.ID)
	}
}

// die ends the connection, and tells its fault's code.
func (x *Endpoint) die(code api.Errno) api.Errno {
	x.dead, x.why = true, code
	x.fail(x.sender.Fail(-1), code)
	x.control = nil
	last, why := octet.Big(0, 4), octet.Big(uint64(code-api.NoError), 4)
	x.wait(frame.Frame{Type: frame.Goaway, Payload: append(last, why...)})
	return code
}

// ending tells the event of a frame that may end a stream.
func ending(ends bool, other state.Event) state.Event {
	if ends {
		return state.GetEnd
	}
	return other
}

// head does what a Head says of a live stream.
func (x *Endpoint) head(e inbound.Event) {
	h, event := x.of(e.Stream), ending(e.End, state.GetHeaders)
	if !h.state.May(event) {
		x.breakOff(e.Stream, api.Closed)
		return
	}
	d, ok := h.read(e)
	if !ok {
		x.breakOff(e.Stream, api.Protocol)
		return
	}
	x.tell(e.Stream, d)
	x.get(e.Stream, event)
}

// read tells what a Head says to its tenant: a response's, till a final one came, and then trailers.
func (h *heard) read(e inbound.Event) (Delivery, bool) {
	if h.final {
		fields, no := request.Trailers(e.Lines)
		return Delivery{Kind: Trailed, Fields: fields}, no == api.OK && e.End
	}
	r, no := request.Response(e.Lines)
	if no != api.OK {
		return Delivery{}, false
	}
	if r.Interim() {
		return Delivery{Kind: Interim, Status: r.Status, Fields: r.Fields}, !e.End
	}
	h.final = true
	return Delivery{Kind: Headed, Status: r.Status, Fields: r.Fields}, true
}

// body does what a Body says of a live stream.
func (x *Endpoint) body(e inbound.Event) {
	h, event := x.of(e.Stream), ending(e.End, state.GetData)
	if !h.state.May(event) {
		x.breakOff(e.Stream, api.Closed)
		return
	}
	if !h.final {
		x.breakOff(e.Stream, api.Protocol)
		return
	}
	h.owed += e.N
	if h.owed > api.Window0 {
		x.breakOff(e.Stream, api.FlowControl)
		return
	}
	if len(e.Text) > 0 {
		x.tell(e.Stream, Delivery{Kind: Part, Text: e.Text})
	}
	if back := window.Owed(h.owed, 0, half); back > 0 && !e.End {
		x.sender.Give(e.Stream, back)
		h.owed -= back
	}
	x.get(e.Stream, event)
}

// tell delivers something to the tenant of a live stream.
func (x *Endpoint) tell(id int, d Delivery) {
	tenant, number, _ := x.sender.Live(id)
	d.Number = number
	x.deliver(tenant, d)
}

// get lets an event of a live stream happen that is allowed, and tells its tenant of the end.
func (x *Endpoint) get(id int, event state.Event) {
	tenant, number, _ := x.sender.Live(id)
	h := x.of(id)
	h.state, _ = h.state.Get(event)
	x.sender.Get(id, event)
	x.settle(id)
	if event == state.GetEnd {
		x.deliver(tenant, Delivery{Number: number, Kind: Done})
	}
}
