package block

import (
	"bytes"
	"math"
	"math/rand"
	"strings"
	"testing"

	"squint/api"
	"squint/frame"
	"squint/payload"
)

var proto = payload.Fault{Code: api.Protocol, Conn: true}

func assembler(t *testing.T, limit int) *Assembler {
	a, e := New(limit)
	if e != api.OK {
		t.Fatalf("New(%d): %d", limit, e)
	}
	return a
}

func headers(stream int, text string, end, whole bool) payload.Item {
	return payload.Item{Type: frame.Headers, Stream: stream, Text: []byte(text), End: end, EndHeaders: whole}
}

func more(stream int, text string, whole bool) payload.Item {
	return payload.Item{Type: frame.Continuation, Stream: stream, Text: []byte(text), EndHeaders: whole}
}

// is tells whether an assembler is as it is said.
func is(a *Assembler, stream int, within bool, waiting int) bool {
	s, ok := a.Within()
	return s == stream && ok == within && a.Waiting() == waiting
}

// P12.1
func TestNew(t *testing.T) {
	for _, limit := range []int{0, 1, 1 << 20} {
		if a := assembler(t, limit); !is(a, 0, false, 0) {
			t.Errorf("New(%d) isn't idle", limit)
		}
	}
	for _, limit := range []int{-1, 1<<20 + 1, math.MinInt, math.MaxInt} {
		if a, e := New(limit); a != nil || e != api.ErrRange {
			t.Errorf("New(%d): %v, %d", limit, a, e)
		}
	}
}

type step struct {
	x       payload.Item
	whole   bool
	block   Block
	fault   payload.Fault
	stream  int
	within  bool
	waiting int
}

func walk(t *testing.T, name string, a *Assembler, steps []step) {
	for i, s := range steps {
		b, ok, fault := a.On(s.x)
		if ok != s.whole || b.Stream != s.block.Stream || !bytes.Equal(b.Text, s.block.Text) || b.End != s.block.End || fault != s.fault {
			t.Errorf("%s, step %d: %v, %v, %v", name, i, b, ok, fault)
		}
		if !is(a, s.stream, s.within, s.waiting) {
			n, ok := a.Within()
			t.Errorf("%s, step %d: within %d, %v, %d wait", name, i, n, ok, a.Waiting())
		}
	}
}

// P12.1
func TestOn(t *testing.T) {
	walk(t, "whole ones", assembler(t, 6), []step{
		{x: headers(5, "abc", false, true), whole: true, block: Block{5, []byte("abc"), false}},
		{x: headers(7, "abcdef", true, true), whole: true, block: Block{7, []byte("abcdef"), true}},
		{x: headers(7, "", false, true), whole: true, block: Block{7, nil, false}},
		{x: headers(7, "abcdefg", true, true), fault: proto},
		{x: headers(7, "abcdefg", true, false), fault: proto},
		{x: headers(9, "a", true, true), whole: true, block: Block{9, []byte("a"), true}},
	})
	walk(t, "parts", assembler(t, 6), []step{
		{x: headers(5, "ab", true, false), stream: 5, within: true, waiting: 2},
		{x: more(5, "cd", false), stream: 5, within: true, waiting: 4},
		{x: more(5, "", false), stream: 5, within: true, waiting: 4},
		{x: more(5, "efg", true), fault: proto, stream: 5, within: true, waiting: 4},
		{x: more(5, "ef", true), whole: true, block: Block{5, []byte("abcdef"), true}},
		{x: headers(3, "", false, false), stream: 3, within: true},
		{x: more(3, "x", true), whole: true, block: Block{3, []byte("x"), false}},
	})
	end := more(5, "b", true)
	end.End = true // a Continuation's End is none
	walk(t, "an end of a Continuation", assembler(t, 6), []step{
		{x: headers(5, "a", false, false), stream: 5, within: true, waiting: 1},
		{x: end, whole: true, block: Block{5, []byte("ab"), false}},
	})
	walk(t, "limit 0", assembler(t, 0), []step{
		{x: headers(5, "", false, true), whole: true, block: Block{Stream: 5}},
		{x: headers(5, "a", false, true), fault: proto},
	})
}

// P12.1: what doesn't belong there.
func TestFaults(t *testing.T) {
	idle := []step{{x: more(5, "a", true), fault: proto}, {x: more(0, "", true), fault: proto}}
	for kind := range 256 {
		if kind != frame.Headers && kind != frame.Continuation {
			idle = append(idle, step{x: payload.Item{Type: kind, Stream: 5, Text: []byte("abcdefghijk"), EndHeaders: true}})
		}
	}
	walk(t, "idle", assembler(t, 6), idle)
	within := []step{{x: headers(5, "ab", false, false), stream: 5, within: true, waiting: 2}}
	for kind := range 256 {
		if kind != frame.Continuation {
			within = append(within, step{x: payload.Item{Type: kind, Stream: 5, EndHeaders: true}, fault: proto, stream: 5, within: true, waiting: 2})
		}
	}
	within = append(within, step{x: more(7, "c", true), fault: proto, stream: 5, within: true, waiting: 2},
		step{x: more(0, "c", true), fault: proto, stream: 5, within: true, waiting: 2},
		step{x: more(5, "c", true), whole: true, block: Block{5, []byte("abc"), false}})
	walk(t, "within", assembler(t, 6), within)
}

// P12.1
func TestCopy(t *testing.T) {
	a := assembler(t, 6)
	a.On(headers(5, "ab", true, false))
	c := a.Copy()
	a.On(more(5, "xx", false))
	b, ok, _ := c.On(more(5, "cd", true))
	if !ok || string(b.Text) != "abcd" || !b.End || !is(a, 5, true, 4) || !is(c, 0, false, 0) {
		t.Errorf("%v, %v", b, ok)
	}
	if b, _, _ := a.Copy().On(more(5, "", true)); string(b.Text) != "abxx" {
		t.Errorf("the copy's bytes are the first one's: %q", b.Text)
	}
	if _, _, fault := c.On(headers(5, "abcdefg", false, true)); fault != proto {
		t.Errorf("the copy's limit: %v", fault)
	}
	if d := a.Copy(); !is(d, 5, true, 4) {
		t.Errorf("the copy isn't within")
	}
}

// P12.2
func TestSplit(t *testing.T) {
	l, e := Split(5, []byte("abcde"), true, 2)
	want := []frame.Frame{
		{Type: frame.Headers, Flags: 1, Stream: 5, Payload: []byte("ab")}, {Type: frame.Continuation, Stream: 5, Payload: []byte("cd")},
		{Type: frame.Continuation, Flags: 4, Stream: 5, Payload: []byte("e")},
	}
	if len(l) != 3 || e != api.OK || !l[0].Equal(want[0]) || !l[1].Equal(want[1]) || !l[2].Equal(want[2]) {
		t.Errorf("Split: %v, %d", l, e)
	}
	for _, c := range []struct {
		text  string
		end   bool
		most  int
		sizes []int
	}{
		{"", false, 1, []int{0}}, {"", true, 5, []int{0}}, {"ab", false, 2, []int{2}}, {"abc", true, 2, []int{2, 1}}, {"abcd", false, 2, []int{2, 2}},
		{"abc", false, 1, []int{1, 1, 1}}, {strings.Repeat("x", api.MaxFrame+1), false, api.MaxFrame, []int{api.MaxFrame, 1}},
	} {
		l, e := Split(api.MaxStream, []byte(c.text), c.end, c.most)
		if e != api.OK || len(l) != len(c.sizes) {
			t.Fatalf("Split(%q, %d): %v, %d", c.text, c.most, l, e)
		}
		for i, f := range l {
			flags, kind := 0, frame.Continuation
			if i == 0 {
				kind = frame.Headers
				if c.end {
					flags = 1
				}
			}
			if i == len(l)-1 {
				flags |= 4
			}
			if f.Type != kind || f.Flags != flags || f.Stream != api.MaxStream || len(f.Payload) != c.sizes[i] {
				t.Errorf("Split(%q, %d), frame %d: %v", c.text, c.most, i, f)
			}
		}
	}
	if l, e := Split(1, nil, true, 1); len(l) != 1 || l[0].Stream != 1 || e != api.OK {
		t.Errorf("Split of the stream 1: %v, %d", l, e)
	}
	for _, c := range [][2]int{{0, 5}, {-1, 5}, {api.MaxStream + 1, 5}, {1, 0}, {1, -1}, {1, api.MaxFrame + 1}, {math.MinInt, 1}, {1, math.MaxInt}} {
		if l, e := Split(c[0], []byte("abc"), false, c[1]); len(l) != 0 || e != api.ErrRange {
			t.Errorf("Split(%v): %v, %d", c, l, e)
		}
	}
}

// P12.2: an assembler makes of what Split tells just that block.
func TestBackAgain(t *testing.T) {
	r := rand.New(rand.NewSource(1))
	for range 300 {
		text := make([]byte, r.Intn(50))
		r.Read(text)
		want := bytes.Clone(text)
		stream, end, most := 1+r.Intn(100), r.Intn(2) == 0, 1+r.Intn(20)
		l, _ := Split(stream, text, end, most)
		clear(text)
		for _, limit := range []int{len(text), len(text) - 1} {
			if limit < 0 {
				continue
			}
			a := assembler(t, limit)
			for i, f := range l {
				x, fault := payload.Parse(f)
				if !fault.OK() {
					t.Fatalf("%v: %v", f, fault)
				}
				b, ok, fault := a.On(x)
				last := i == len(l)-1
				if limit == len(text) && (ok != last || !fault.OK() || ok && (b.Stream != stream || b.End != end || !bytes.Equal(b.Text, want))) {
					t.Fatalf("%v: %v, %v, %v", f, b, ok, fault)
				}
				if limit < len(text) && last && fault != proto {
					t.Fatalf("above the limit: %v", fault)
				}
				clear(x.Text) // what is handed in isn't kept
			}
		}
	}
}
