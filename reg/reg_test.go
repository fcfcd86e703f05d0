package reg

import (
	"math"
	"math/rand"
	"slices"
	"testing"

	"squint/api"
	"squint/payload"
	"squint/state"
)

func registry(t *testing.T, tenants, quota int) *Reg {
	g, e := New(tenants, quota)
	if e != api.OK {
		t.Fatalf("New(%d, %d): %d", tenants, quota, e)
	}
	return g
}

// P14.1
func TestID(t *testing.T) {
	for _, c := range [][2]int{{0, 1}, {1, 3}, {7, 15}, {api.MaxTick, api.MaxStream}, {-1, 0}, {api.MaxTick + 1, 0}, {math.MinInt, 0}, {math.MaxInt, 0}} {
		if got := ID(c[0]); got != c[1] {
			t.Errorf("ID(%d): %d", c[0], got)
		}
	}
}

// P14.1
func TestOwner(t *testing.T) {
	for _, c := range []struct {
		id, tenants, tenant int
		ok                  bool
	}{
		{1, 3, 0, true}, {3, 3, 1, true}, {5, 3, 2, true}, {7, 3, 0, true}, {7, 1, 0, true}, {127, 64, 63, true}, {129, 64, 0, true}, {api.MaxStream, 64, 63, true},
		{0, 3, 0, false}, {2, 3, 0, false}, {4, 3, 0, false}, {-1, 3, 0, false}, {-3, 3, 0, false}, {api.MaxStream + 1, 3, 0, false}, {api.MaxStream + 2, 3, 0, false},
		{1, 0, 0, false}, {3, 65, 0, false}, {3, -1, 0, false}, {math.MinInt, 3, 0, false}, {math.MaxInt, 3, 0, false}, {3, math.MinInt, 0, false}, {3, math.MaxInt, 0, false},
	} {
		if tenant, ok := Owner(c.id, c.tenants); tenant != c.tenant || ok != c.ok {
			t.Errorf("Owner(%d, %d): %d, %v", c.id, c.tenants, tenant, ok)
		}
	}
}

// P14.1
func TestNew(t *testing.T) {
	for _, c := range [][2]int{{1, 1}, {64, 1 << 16}} {
		g := registry(t, c[0], c[1])
		if g.Last() != 0 || g.Live(0) != 0 || g.Fail() != 0 {
			t.Errorf("New(%v)", c)
		}
	}
	for _, c := range [][2]int{{0, 1}, {65, 1}, {-1, 1}, {1, 0}, {1, -1}, {1, 1<<16 + 1}, {math.MaxInt, 1}, {1, math.MaxInt}, {math.MinInt, 1}, {1, math.MinInt}} {
		if g, e := New(c[0], c[1]); g != nil || e != api.ErrRange {
			t.Errorf("New(%v): %v, %d", c, g, e)
		}
	}
}

// P14.2
func TestOpen(t *testing.T) {
	g := registry(t, 3, 2)
	for _, c := range []struct {
		tick, id int
		e        api.Errno
	}{
		{-1, 0, api.ErrRange}, {api.MaxTick + 1, 0, api.ErrRange}, {math.MinInt, 0, api.ErrRange}, {math.MaxInt, 0, api.ErrRange},
		{0, 1, api.OK}, {0, 0, api.ErrState}, {3, 7, api.OK}, {2, 0, api.ErrState}, {4, 9, api.OK}, {6, 0, api.ErrQuota}, {3, 0, api.ErrState}, {5, 11, api.OK},
		{7, 15, api.OK}, {10, 0, api.ErrQuota}, {api.MaxTick + 1, 0, api.ErrRange},
	} {
		last := g.Last()
		id, e := g.Open(c.tick)
		if id != c.id || e != c.e {
			t.Errorf("Open(%d): %d, %d", c.tick, id, e)
		}
		if e == api.OK {
			last = id
			if x, e := g.Get(id); x != (Entry{id, c.tick % 3, state.Open}) || e != api.OK {
				t.Errorf("Get(%d): %v, %d", id, x, e)
			}
		}
		if g.Last() != last {
			t.Errorf("Last behind Open(%d): %d", c.tick, g.Last())
		}
	}
	if g.Live(0) != 2 || g.Live(1) != 2 || g.Live(2) != 1 || g.Live(3) != 0 || g.Live(-1) != 0 || g.Live(math.MaxInt) != 0 {
		t.Errorf("Live: %d, %d, %d", g.Live(0), g.Live(1), g.Live(2))
	}
	// room again, behind a stream that is closed
	g.Do(1, state.GetReset)
	if id, e := g.Open(9); id != 19 || e != api.OK || g.Live(0) != 2 {
		t.Errorf("Open(9): %d, %d", id, e)
	}
	g.Do(7, state.GetReset) // the last tick is the tenant's 0
	if id, e := g.Open(api.MaxTick); id != api.MaxStream || e != api.OK || g.Last() != api.MaxStream {
		t.Errorf("Open(MaxTick): %d, %d", id, e)
	}
}

// P14.3
func TestDo(t *testing.T) {
	g := registry(t, 2, 5)
	for _, id := range []int{0, 1, 2, -1, math.MinInt, math.MaxInt} {
		if e, fault := g.Do(id, state.GetData); e != api.ErrNone || !fault.OK() {
			t.Errorf("Do(%d): %d, %v", id, e, fault)
		}
		if x, e := g.Get(id); x != (Entry{}) || e != api.ErrNone {
			t.Errorf("Get(%d): %v, %d", id, x, e)
		}
	}
	g.Open(0)
	g.Open(1)
	for _, c := range []struct {
		event state.Event
		e     api.Errno
		fault payload.Fault
		at    state.State
	}{
		{state.SendData, api.OK, payload.Fault{}, state.Open}, {99, api.ErrRange, payload.Fault{}, state.Open}, {-1, api.ErrRange, payload.Fault{}, state.Open},
		{state.SendEnd, api.OK, payload.Fault{}, state.Theirs}, {state.SendData, api.ErrState, payload.Fault{}, state.Theirs}, {state.GetHeaders, api.OK, payload.Fault{}, state.Theirs},
	} {
		e, fault := g.Do(1, c.event)
		x, _ := g.Get(1)
		if e != c.e || fault != c.fault || x != (Entry{1, 0, c.at}) {
			t.Errorf("Do(1, %d): %d, %v, %v", c.event, e, fault, x)
		}
	}
	if e, fault := g.Do(1, state.GetEnd); e != api.OK || !fault.OK() || g.Live(0) != 0 {
		t.Errorf("the end: %d, %v", e, fault)
	}
	if e, fault := g.Do(1, state.GetEnd); e != api.ErrNone || !fault.OK() {
		t.Errorf("behind the end: %d, %v", e, fault)
	}
	if _, e := g.Get(1); e != api.ErrNone {
		t.Errorf("Get behind the end: %d", e)
	}
	// a fault of the stream closes it too
	g.Do(3, state.GetEnd)
	if x, _ := g.Get(3); x.State != state.Ours {
		t.Errorf("Get(3): %v", x)
	}
	if e, fault := g.Do(3, state.GetData); e != api.OK || fault != (payload.Fault{Code: api.Closed}) || g.Live(1) != 0 {
		t.Errorf("shut: %d, %v", e, fault)
	}
	if g.Last() != 3 {
		t.Errorf("Last: %d", g.Last())
	}
}

// P14.3
func TestAllAndFail(t *testing.T) {
	g := registry(t, 3, 100)
	all := g.All()
	for tick := range 50 {
		g.Open(tick * 2)
	}
	for i := 0; i < 50; i += 3 {
		g.Do(ID(i*2), state.SendReset)
	}
	g.Do(ID(2), state.SendEnd)
	var want []Entry
	for i := range 50 {
		if i%3 != 0 {
			s := state.Open
			if i == 1 {
				s = state.Theirs
			}
			want = append(want, Entry{4*i + 1, i * 2 % 3, s})
		}
	}
	if got := slices.Collect(all); !slices.Equal(got, want) {
		t.Errorf("All: %v", got)
	}
	n := 0
	for range g.All() {
		if n++; n == 4 {
			break
		}
	}
	if n != 4 {
		t.Errorf("All told %d", n)
	}
	if n := g.Fail(); n != len(want) {
		t.Errorf("Fail: %d", n)
	}
	if g.Live(0)+g.Live(1)+g.Live(2) != 0 || len(slices.Collect(g.All())) != 0 || g.Last() != 197 || g.Fail() != 0 {
		t.Errorf("behind Fail: %d, %d, %d, last %d", g.Live(0), g.Live(1), g.Live(2), g.Last())
	}
	if _, e := g.Open(98); e != api.ErrState {
		t.Errorf("Open behind Fail: %d", e)
	}
	if id, e := g.Open(99); id != 199 || e != api.OK || g.Live(0) != 1 {
		t.Errorf("Open behind Fail: %d, %d", id, e)
	}
}

// P14.3
func TestCopy(t *testing.T) {
	g := registry(t, 2, 2)
	for tick, e := range []state.Event{state.SendData, state.SendEnd, state.GetEnd} {
		g.Open(tick)
		g.Do(ID(tick), e)
	}
	c := g.Copy()
	want := []Entry{{1, 0, state.Open}, {3, 1, state.Theirs}, {5, 0, state.Ours}}
	if got := slices.Collect(c.All()); !slices.Equal(got, want) || c.Last() != 5 || c.Live(0) != 2 || c.Live(1) != 1 {
		t.Errorf("the copy: %v", got)
	}
	g.Do(1, state.SendReset)
	g.Do(3, state.GetEnd)
	g.Open(7)
	if got := slices.Collect(c.All()); !slices.Equal(got, want) || c.Last() != 5 {
		t.Errorf("the copy moved: %v", got)
	}
	if _, e := c.Open(8); e != api.ErrQuota {
		t.Errorf("the copy's quota: %d", e)
	}
	c.Do(5, state.SendEnd)
	if x, e := g.Get(5); x.State != state.Ours || e != api.OK || c.Live(0) != 1 || g.Live(0) != 1 {
		t.Errorf("%v, %d, %d", x, e, c.Live(0))
	}
}

// P14.2, P14.3: against a plain list.
func TestAgainstAList(t *testing.T) {
	r := rand.New(rand.NewSource(1))
	g := registry(t, 4, 3)
	states := map[int]state.State{}
	tick := 0
	for range 4000 {
		if r.Intn(2) == 0 {
			tick += r.Intn(3)
			live := 0
			for id := range states {
				if (id-1)/2%4 == tick%4 {
					live++
				}
			}
			want := api.OK
			if 2*tick+1 <= g.Last() {
				want = api.ErrState
			} else if live >= 3 {
				want = api.ErrQuota
			}
			id, e := g.Open(tick)
			if e != want {
				t.Fatalf("Open(%d): %d, not %d", tick, e, want)
			}
			if e == api.OK {
				states[id] = state.Open
			}
		} else {
			id, e := 2*max(0, tick-r.Intn(12))+1, state.Event(r.Intn(9))
			g.Do(id, e)
			if s, ok := states[id]; ok {
				if e < 4 && s.May(e) {
					states[id], _ = s.Send(e)
				} else if e >= 4 {
					states[id], _ = s.Get(e)
				}
				if states[id].Done() {
					delete(states, id)
				}
			}
		}
		n := 0
		for x := range g.All() {
			n++
			if states[x.ID] != x.State {
				t.Fatalf("%v, not %d", x, states[x.ID])
			}
		}
		if n != len(states) || g.Live(0)+g.Live(1)+g.Live(2)+g.Live(3) != n {
			t.Fatalf("%d live, not %d", n, len(states))
		}
	}
}
