package outbound

import (
	"squint/api"
	"squint/cell"
	"squint/frame"
	"squint/octet"
	"squint/payload"
	"squint/state"
	"squint/window"
)

// turn does the first thing that there is to do for a tenant at a tick of its own.
func (o *Outbound) turn(tenant, tick int) ([]frame.Frame, Did) {
	for _, do := range []func(tenant, tick int) (frame.Frame, Did, bool){o.cutFirst, o.giveFirst, o.sendFirst, o.openFirst} {
		if f, did, ok := do(tenant, tick); ok {
			did.Tenant = tenant
			return []frame.Frame{f}, did
		}
	}
	return nil, Did{Tenant: tenant}
}

// cutFirst says the reset of the tenant's first cut.
func (o *Outbound) cutFirst(tenant, _ int) (frame.Frame, Did, bool) {
	if len(o.cuts[tenant]) == 0 {
		return frame.Frame{}, Did{}, false
	}
	c := o.cuts[tenant][0]
	o.cuts[tenant] = o.cuts[tenant][1:]
	f := frame.Frame{Type: frame.Reset, Stream: c.id, Payload: octet.Big(uint64(c.code-api.NoError), 4)}
	return f, Did{Kind: Cut, ID: c.id}, true
}

// giveFirst says the tenant's first gift.
func (o *Outbound) giveFirst(tenant, _ int) (frame.Frame, Did, bool) {
	if len(o.gifts[tenant]) == 0 {
		return frame.Frame{}, Did{}, false
	}
	g := o.gifts[tenant][0]
	o.gifts[tenant] = o.gifts[tenant][1:]
	f := frame.Frame{Type: frame.Update, Stream: g.id, Payload: octet.Big(uint64(g.n), 4)}
	return f, Did{Kind: Gave, ID: g.id, N: g.n}, true
}

// sendFirst sends what comes next of the first of the tenant's bodies that may be sent. A cell is spent whole, however few bytes it has: so windows tell nothing of lengths.
func (o *Outbound) sendFirst(tenant, _ int) (frame.Frame, Did, bool) {
	if o.credit.Left(tenant) < o.config.Cell {
		return frame.Frame{}, Did{}, false
	}
	ready := func(id int, s *stream) bool {
		return len(s.left) > 0 && s.window.Size() >= o.config.Cell && o.owner(id) == tenant
	}
	for id, s := range o.rising(ready) {
		return o.send(tenant, id, s)
	}
	return frame.Frame{}, Did{}, false
}

// send sends what comes next of a body.
func (o *Outbound) send(tenant, id int, s *stream) (frame.Frame, Did, bool) {
	n := min(len(s.left), o.config.Cell-1)
	end := n == len(s.left)
	f, e := cell.Pad(id, s.left[:n], end, o.config.Cell)
	if e != api.OK {
		return frame.Frame{}, Did{}, false
	}
	s.left = s.left[n:]
	s.window.Spend(o.config.Cell)
	o.credit.Spend(tenant, o.config.Cell)
	if end {
		o.Get(id, state.SendEnd)
		return f, Did{Kind: Ended, ID: id, Number: s.number, N: n}, true
	}
	o.Get(id, state.SendData)
	return f, Did{Kind: Sent, ID: id, Number: s.number, N: n}, true
}

// openFirst opens a stream for the tenant's first item.
func (o *Outbound) openFirst(tenant, tick int) (frame.Frame, Did, bool) {
	if o.reg.Live(tenant) >= o.limit || o.queue.Len(tenant) == 0 {
		return frame.Frame{}, Did{}, false
	}
	id, e := o.reg.Open(tick)
	if e != api.OK {
		return frame.Frame{}, Did{}, false
	}
	x, _ := o.queue.Pop(tenant)
	w, _ := window.New(o.first)
	o.streams[id] = &stream{window: w, number: x.Number, left: x.Body}
	f := frame.Frame{Type: frame.Headers, Flags: payload.EndHeaders, Stream: id, Payload: x.Head}
	if len(x.Body) > 0 {
		return f, Did{Kind: Opened, ID: id, Number: x.Number}, true
	}
	f.Flags |= payload.EndStream
	o.Get(id, state.SendEnd)
	return f, Did{Kind: Ended, ID: id, Number: x.Number}, true
}
