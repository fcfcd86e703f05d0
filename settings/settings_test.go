package settings

import (
	"math"
	"slices"
	"testing"

	"squint/api"
	"squint/frame"
	"squint/payload"
)

var (
	proto = payload.Fault{Code: api.Protocol, Conn: true}
	flow  = payload.Fault{Code: api.FlowControl, Conn: true}
)

// P16.1
func TestFirst(t *testing.T) {
	if got := First(); got != (Set{4096, 1, 1<<32 - 1, 65535, 16384, 1<<32 - 1}) {
		t.Errorf("First: %v", got)
	}
	want := [][2]int{{1, 4096}, {2, 1}, {3, 1<<32 - 1}, {4, 65535}, {5, 16384}, {6, 1<<32 - 1}}
	if got := First().Pairs(); !slices.Equal(got, want) {
		t.Errorf("Pairs: %v", got)
	}
	if got := (Set{-1, 2, 3, 4, 5, 6}).Pairs(); !slices.Equal(got, [][2]int{{1, -1}, {2, 2}, {3, 3}, {4, 4}, {5, 5}, {6, 6}}) {
		t.Errorf("Pairs: %v", got)
	}
}

// P16.1
func TestApply(t *testing.T) {
	same := Change{65535, 65535}
	with := func(change func(s *Set)) Set {
		s := First()
		change(&s)
		return s
	}
	for _, c := range []struct {
		pairs  [][2]int
		set    Set
		change Change
		fault  payload.Fault
	}{
		{nil, First(), same, payload.Fault{}},
		{[][2]int{{4, 100}}, with(func(s *Set) { s.Window = 100 }), Change{65535, 100}, payload.Fault{}},
		{[][2]int{{4, 100}, {4, 7}}, with(func(s *Set) { s.Window = 7 }), Change{65535, 7}, payload.Fault{}},
		{[][2]int{{4, 100}, {4, 65535}}, First(), same, payload.Fault{}},
		{[][2]int{{4, 0}}, with(func(s *Set) { s.Window = 0 }), Change{65535, 0}, payload.Fault{}},
		{[][2]int{{4, api.MaxWindow}}, with(func(s *Set) { s.Window = api.MaxWindow }), Change{65535, api.MaxWindow}, payload.Fault{}},
		{[][2]int{{4, api.MaxWindow + 1}}, First(), Change{}, flow},
		{[][2]int{{4, 1<<32 - 1}}, First(), Change{}, flow},
		{[][2]int{{4, 1 << 32}}, First(), Change{}, proto},
		{[][2]int{{4, -1}}, First(), Change{}, proto},
		{[][2]int{{1, 0}}, with(func(s *Set) { s.Table = 0 }), same, payload.Fault{}},
		{[][2]int{{1, 1<<32 - 1}}, with(func(s *Set) { s.Table = 1<<32 - 1 }), same, payload.Fault{}},
		{[][2]int{{2, 0}}, with(func(s *Set) { s.Push = 0 }), same, payload.Fault{}},
		{[][2]int{{2, 0}, {2, 1}}, First(), same, payload.Fault{}},
		{[][2]int{{2, 2}}, First(), Change{}, proto},
		{[][2]int{{3, 0}}, with(func(s *Set) { s.Streams = 0 }), same, payload.Fault{}},
		{[][2]int{{5, 1<<24 - 1}}, with(func(s *Set) { s.Frame = 1<<24 - 1 }), same, payload.Fault{}},
		{[][2]int{{5, 16384}}, First(), same, payload.Fault{}},
		{[][2]int{{5, 16383}}, First(), Change{}, proto},
		{[][2]int{{5, 1 << 24}}, First(), Change{}, proto},
		{[][2]int{{6, 5}}, with(func(s *Set) { s.List = 5 }), same, payload.Fault{}},
		{[][2]int{{0, 5}, {7, 6}, {65535, 7}, {-4, 8}, {math.MaxInt, 9}}, First(), same, payload.Fault{}},
		{[][2]int{{7, -1}}, First(), Change{}, proto},
		{[][2]int{{1, 1 << 32}}, First(), Change{}, proto},
		{[][2]int{{3, math.MinInt}}, First(), Change{}, proto},
		{[][2]int{{6, math.MaxInt}}, First(), Change{}, proto},
		{[][2]int{{4, 100}, {1, 5}, {2, 2}, {4, 1 << 31}}, First(), Change{}, proto},
		{[][2]int{{4, 100}, {4, 1 << 31}, {2, 2}}, First(), Change{}, flow},
	} {
		set, change, fault := First().Apply(c.pairs)
		if set != c.set || change != c.change || fault != c.fault {
			t.Errorf("Apply(%v): %v, %v, %v", c.pairs, set, change, fault)
		}
	}
	s := Set{Window: 9}
	if set, change, fault := s.Apply([][2]int{{2, 2}}); set != s || change != (Change{}) || fault != proto {
		t.Errorf("a fault: %v, %v, %v", set, change, fault)
	}
	if set, change, _ := s.Apply([][2]int{{4, 8}}); set.Window != 8 || change != (Change{9, 8}) || s.Window != 9 {
		t.Errorf("%v, %v", set, change)
	}
}

// P16.2
func TestShare(t *testing.T) {
	for _, c := range [][3]int{
		{100, 3, 33}, {100, 1, 100}, {2, 3, 0}, {0, 3, 0}, {1<<32 - 1, 1, 1 << 16}, {1<<32 - 1, 64, 1 << 16}, {1 << 22, 64, 1 << 16}, {1<<22 - 1, 64, 1<<16 - 1},
		{100, 0, 0}, {100, -1, 0}, {100, 65, 0}, {100, math.MaxInt, 0}, {100, math.MinInt, 0}, {-5, 2, -3}, {-4, 2, -2},
	} {
		if got := (Set{Streams: c[0]}).Share(c[1]); got != c[2] {
			t.Errorf("Share(%d) of %d: %d", c[1], c[0], got)
		}
	}
}

// P16.2
func TestFrame(t *testing.T) {
	f, e := Frame([][2]int{{1, 0}, {65535, 1<<32 - 1}, {4, 65536}})
	want := frame.Frame{Type: frame.Settings, Payload: []byte{0, 1, 0, 0, 0, 0, 255, 255, 255, 255, 255, 255, 0, 4, 0, 1, 0, 0}}
	if !f.Equal(want) || e != api.OK {
		t.Errorf("Frame: %v, %d", f, e)
	}
	if f, e := Frame(nil); !f.Equal(frame.Frame{Type: frame.Settings}) || e != api.OK {
		t.Errorf("Frame of nothing: %v, %d", f, e)
	}
	if f := Acknowledge(); !f.Equal(frame.Frame{Type: frame.Settings, Flags: 1}) {
		t.Errorf("Acknowledge: %v", f)
	}
	hundred := make([][2]int, 100)
	if f, e := Frame(hundred); len(f.Payload) != 600 || e != api.OK {
		t.Errorf("a hundred pairs: %d bytes, %d", len(f.Payload), e)
	}
	more := append(hundred, [2]int{})
	if f, e := Frame(more); !f.Equal(frame.Frame{}) || e != api.ErrFull {
		t.Errorf("101 pairs: %v, %d", f, e)
	}
	for _, p := range [][2]int{{-1, 0}, {65536, 0}, {0, -1}, {0, 1 << 32}, {math.MinInt, 0}, {0, math.MaxInt}} {
		if f, e := Frame([][2]int{{1, 1}, p}); !f.Equal(frame.Frame{}) || e != api.ErrRange {
			t.Errorf("Frame of %v: %v, %d", p, f, e)
		}
		if _, e := Frame(append(make([][2]int, 101), p)); e != api.ErrRange {
			t.Errorf("too many, with %v: %d", p, e)
		}
	}
}

// P16.2: what layer 10 reads from these is the same.
func TestReadBack(t *testing.T) {
	pairs := [][2]int{{1, 5}, {65535, 1<<32 - 1}, {0, 0}}
	f, _ := Frame(pairs)
	if x, fault := payload.Parse(f); !fault.OK() || x.Ack || !slices.Equal(x.Pairs, pairs) {
		t.Errorf("%v, %v", x, fault)
	}
	if x, fault := payload.Parse(Acknowledge()); !fault.OK() || !x.Ack || len(x.Pairs) != 0 {
		t.Errorf("%v, %v", x, fault)
	}
	f, _ = Frame(First().Pairs())
	x, _ := payload.Parse(f)
	if set, _, fault := (Set{}).Apply(x.Pairs); set != First() || !fault.OK() {
		t.Errorf("%v, %v", set, fault)
	}
}
