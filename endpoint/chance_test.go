package endpoint

import (
	"bytes"
	"math/rand"
	"slices"
	"testing"

	"squint/api"
	"squint/frame"
	"squint/outbound"
)

// some tells a frame of a stream by chance, that is no fault of the connection, if the stream was opened.
func some(r *rand.Rand, id int) frame.Frame {
	text := string(make([]byte, r.Intn(900)))
	end := r.Intn(4) == 0
	switch r.Intn(9) {
	case 0, 1:
		return head(id, end, ":status", "200", "a", "b")
	case 2:
		return head(id, end, ":status", "103")
	case 3, 4:
		return data(id, end, text)
	case 5:
		return head(id, end, "trailer", "x")
	case 6:
		return update(id, r.Intn(200))
	case 7:
		if r.Intn(4) == 0 {
			return reset(id, uint32(r.Intn(20)))
		}
		return frame.Frame{Type: frame.Priority, Stream: id, Payload: []byte{0, 0, 0, 0, 1}}
	}
	return frame.Frame{Type: frame.Data, Flags: 9, Stream: id, Payload: []byte("\x01ab\x00")}
}

// liveOf tells the live streams of a tenant, rising.
func liveOf(x *Endpoint, tenant int) []int {
	var out []int
	for id := 1; id <= x.sender.Last(); id += 2 {
		if t, _, e := x.sender.Live(id); e == api.OK && t == tenant {
			out = append(out, id)
		}
	}
	return out
}

// act submits something, or feeds a frame of one of the tenant's streams, by chance.
func act(t *testing.T, r *rand.Rand, x *Endpoint, tenant int) {
	a, b, c := r.Intn(5), r.Intn(300), r.Int63()
	if a == 0 {
		x.Submit(tenant, get(b))
	}
	l := liveOf(x, tenant)
	if len(l) == 0 || a < 2 {
		return
	}
	f := some(rand.New(rand.NewSource(c)), l[b%len(l)])
	if e := x.Feed(row(f)); e != api.OK {
		t.Fatalf("%v: %d", f, e)
	}
}

// P25.4: what a tenant is delivered, and its slots, are the same, whatever the others do.
func TestTenantsStandAlone(t *testing.T) {
	c := outbound.Config{Tenants: 3, Cell: 32, Bytes: 1000, Items: 5, Streams: 3}
	delivered := 0
	for seed := range int64(40) {
		a, b := endpoint(t, c), endpoint(t, c)
		mine, also := rand.New(rand.NewSource(seed)), rand.New(rand.NewSource(seed))
		others, conn := rand.New(rand.NewSource(seed+1000)), rand.New(rand.NewSource(seed+2000))
		feed(t, a, api.OK, asks())
		feed(t, b, api.OK, asks())
		for tick := range 400 {
			act(t, mine, a, 1)
			act(t, also, b, 1)
			for range 3 {
				act(t, others, a, 2*others.Intn(2)) // in one alone
			}
			if n := conn.Intn(200); conn.Intn(8) == 0 {
				for _, x := range []*Endpoint{a, b} {
					feed(t, x, api.OK, update(0, n+1), asks([2]int{4, 200 * n}, [2]int{3, n}), ping(0))
				}
			}
			x, _ := a.Tick()
			y, _ := b.Tick()
			if len(x.Slot) != len(y.Slot) {
				t.Fatalf("seed %d, tick %d: slots of %d and %d bytes", seed, tick, len(x.Slot), len(y.Slot))
			}
			if tick%3 == 1 && (!bytes.Equal(x.Slot, y.Slot) || x.Did != y.Did) {
				t.Fatalf("seed %d, tick %d: %v and %v", seed, tick, x.Did, y.Did)
			}
		}
		if !slices.EqualFunc(a.Deliveries(1), b.Deliveries(1), Delivery.Equal) || a.Taken(1) != b.Taken(1) || a.Streams(1) != b.Streams(1) || a.Queued(1) != b.Queued(1) {
			t.Fatalf("seed %d: %v and %v", seed, a.Deliveries(1), b.Deliveries(1))
		}
		delivered += len(a.Deliveries(1))
	}
	if delivered < 1000 {
		t.Errorf("%d deliveries are few", delivered)
	}
}

// once holds a tenant's deliveries against P25.4: one end for each request at most, and nothing behind it.
func once(t *testing.T, x *Endpoint, tenant int) (dones, fails int) {
	t.Helper()
	ended := map[int]bool{}
	at := 0
	for _, d := range x.Deliveries(tenant) {
		if ended[d.Number] || d.Number < 0 || d.Number >= x.Taken(tenant) || d.Tick < at || d.Tick > x.Now() {
			t.Fatalf("%v of %v", d, x.Deliveries(tenant))
		}
		at = d.Tick
		switch d.Kind {
		case Done:
			dones++
			ended[d.Number] = true
		case Failed:
			fails++
			ended[d.Number] = true
		}
	}
	return dones, fails
}

// P25.4: each request that was taken ends once at most; when the connection is over, just once.
func TestOnce(t *testing.T) {
	c := outbound.Config{Tenants: 2, Cell: 32, Bytes: 1000, Items: 5, Streams: 3}
	dones, fails := 0, 0
	for seed := range int64(100) {
		r := rand.New(rand.NewSource(seed))
		x := endpoint(t, c)
		feed(t, x, api.OK, asks())
		for tick := range 300 {
			for tenant := range 2 {
				act(t, r, x, tenant)
				once(t, x, tenant)
			}
			if r.Intn(200) == 0 {
				feed(t, x, api.OK, goaway(2*max(0, tick-r.Intn(20))+1, 0))
			}
			if o, _ := x.Tick(); o.Did.Kind == outbound.Opened && o.Did.Number >= x.Taken(o.Did.Tenant) {
				t.Fatalf("%v", o.Did)
			}
		}
		if len(x.heard) > x.Streams(0)+x.Streams(1) {
			t.Fatalf("kept of %d streams", len(x.heard))
		}
		feed(t, x, api.Protocol, frame.Frame{Type: frame.Promise})
		for tenant := range 2 {
			d, f := once(t, x, tenant)
			if d+f != x.Taken(tenant) {
				t.Fatalf("%d and %d of %d ended", d, f, x.Taken(tenant))
			}
			dones, fails = dones+d, fails+f
		}
	}
	if dones < 100 || fails < 100 {
		t.Errorf("%d done, %d failed", dones, fails)
	}
}

// FuzzFeed: whatever comes, calls end, and nothing ends twice.
func FuzzFeed(f *testing.F) {
	f.Add(row(asks(), head(1, true, ":status", "200")), byte(3))
	f.Add(row(asks(), head(1, false, ":status", "200"), data(1, true, "abc"), reset(3, 5)), byte(9))
	f.Fuzz(func(t *testing.T, b []byte, cut byte) {
		x := endpoint(t, config)
		submit(t, x, 0, 5, 300)
		submit(t, x, 1, 0, 0)
		ticks(t, x, 4)
		n := min(int(cut), len(b))
		x.Feed(b[:n])
		ticks(t, x, 3)
		x.Feed(b[n:])
		ticks(t, x, 3)
		once(t, x, 0)
		once(t, x, 1)
	})
}
