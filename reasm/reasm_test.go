package reasm

import (
	"bytes"
	"math"
	"math/rand"
	"slices"
	"testing"

	"squint/api"
	"squint/frame"
)

func reader(t *testing.T, most int) *Reasm {
	r, e := New(most)
	if e != api.OK {
		t.Fatalf("New(%d): %d", most, e)
	}
	return r
}

func row(l ...frame.Frame) []byte {
	var out []byte
	for _, f := range l {
		b, _ := f.Bytes()
		out = append(out, b...)
	}
	return out
}

var ping = frame.Frame{Type: frame.Ping, Payload: []byte("abcdefgh")}

// P11.1
func TestNew(t *testing.T) {
	for _, most := range []int{0, 1, api.MaxFrame, 1<<24 - 1} {
		if r := reader(t, most); r.Waiting() != 0 || r.Needs() != frame.HeadSize || r.Dead() {
			t.Errorf("New(%d): %d, %d, %v", most, r.Waiting(), r.Needs(), r.Dead())
		}
	}
	for _, most := range []int{-1, 1 << 24, math.MinInt, math.MaxInt} {
		if r, e := New(most); r != nil || e != api.ErrRange {
			t.Errorf("New(%d): %v, %d", most, r, e)
		}
	}
}

// P11.1, P11.2: the chapter's example.
func TestTwoHalves(t *testing.T) {
	r := reader(t, 8)
	b := row(ping)
	if l, e := r.Feed(b[:5]); len(l) != 0 || e != api.OK || r.Waiting() != 5 || r.Needs() != 4 {
		t.Errorf("5 bytes: %v, %d, %d wait, needs %d", l, e, r.Waiting(), r.Needs())
	}
	if l, e := r.Feed(b[5:]); !slices.EqualFunc(l, []frame.Frame{ping}, frame.Frame.Equal) || e != api.OK || r.Waiting() != 0 || r.Needs() != 9 {
		t.Errorf("12 more: %v, %d, %d wait, needs %d", l, e, r.Waiting(), r.Needs())
	}
	if l, e := r.Feed(nil); len(l) != 0 || e != api.OK {
		t.Errorf("nothing: %v, %d", l, e)
	}
}

// P11.2: what waits, byte by byte.
func TestNeeds(t *testing.T) {
	r := reader(t, 8)
	b := row(ping, frame.Frame{}, ping)
	at, told := 0, 0
	ends := []int{17, 26, 43}
	for i, c := range b {
		l, e := r.Feed([]byte{c})
		told += len(l)
		if e != api.OK {
			t.Fatalf("byte %d: %d", i, e)
		}
		if len(l) > 0 {
			at = i + 1
		}
		wait := i + 1 - at
		needs := 9 - wait
		if wait >= 9 {
			needs = ends[told] - (i + 1)
		}
		if r.Waiting() != wait || r.Needs() != needs {
			t.Fatalf("behind byte %d: %d wait, needs %d, not %d, %d", i, r.Waiting(), r.Needs(), wait, needs)
		}
	}
	if told != 3 {
		t.Errorf("%d frames", told)
	}
}

// P11.1: a frame that is too great.
func TestDead(t *testing.T) {
	big := frame.Frame{Payload: make([]byte, 9)}
	for _, cut := range []int{0, 3, 8, 9, 10, 17} {
		r := reader(t, 8)
		b := append(row(ping), row(big)...)
		first, e := r.Feed(b[:17+cut])
		want := api.OK
		if cut >= 9 {
			want = api.FrameSize // its length is told by its first bytes
		}
		if e != want || e == api.OK && len(first) != 1 || e != api.OK && len(first) != 0 {
			t.Errorf("cut %d: %v, %d", cut, first, e)
		}
		if e == api.OK {
			if l, e := r.Feed(b[17+cut:]); len(l) != 0 || e != api.FrameSize {
				t.Errorf("cut %d: %v, %d", cut, l, e)
			}
		}
		if !r.Dead() || r.Waiting() != 0 || r.Needs() != 0 {
			t.Errorf("cut %d: %v, %d wait, needs %d", cut, r.Dead(), r.Waiting(), r.Needs())
		}
		if l, e := r.Feed(row(ping)); len(l) != 0 || e != api.ErrState || r.Waiting() != 0 {
			t.Errorf("behind that: %v, %d", l, e)
		}
		if c := r.Copy(); !c.Dead() || c.Needs() != 0 {
			t.Errorf("the copy isn't dead")
		}
	}
	r := reader(t, 9)
	if l, e := r.Feed(row(big)); len(l) != 1 || e != api.OK || r.Dead() {
		t.Errorf("just the most: %v, %d", l, e)
	}
	r = reader(t, 0)
	if l, e := r.Feed(row(frame.Frame{Type: 4}, frame.Frame{Type: 6})); len(l) != 2 || e != api.OK {
		t.Errorf("without payloads: %v, %d", l, e)
	}
}

// P11.1
func TestCopy(t *testing.T) {
	r := reader(t, 8)
	b := row(ping)
	r.Feed(b[:5])
	c := r.Copy()
	if c.Waiting() != 5 || c.Needs() != 4 {
		t.Errorf("the copy: %d wait", c.Waiting())
	}
	c.Feed(b[5:7])
	r.Feed([]byte{9, 9, 9})
	if l, e := c.Feed(b[7:]); len(l) != 1 || !l[0].Equal(ping) || e != api.OK {
		t.Errorf("the copy: %v, %d", l, e)
	}
	if r.Waiting() != 8 {
		t.Errorf("%d wait", r.Waiting())
	}
	if _, e := c.Feed([]byte{0, 0, 9, 0, 0, 0, 0, 0, 0}); e != api.FrameSize {
		t.Errorf("the copy's most: %d", e)
	}
	if r.Dead() {
		t.Errorf("dead with its copy")
	}
}

// P11.2: however bytes are cut.
func TestAnyChunks(t *testing.T) {
	r := rand.New(rand.NewSource(1))
	for range 300 {
		var l []frame.Frame
		for range r.Intn(6) {
			f := frame.Frame{Type: r.Intn(256), Flags: r.Intn(256), Stream: r.Intn(1 << 31), Payload: make([]byte, r.Intn(30))}
			r.Read(f.Payload)
			l = append(l, f)
		}
		b := append(row(l...), make([]byte, r.Intn(9))...)
		re := reader(t, 30)
		var got []frame.Frame
		fed := 0
		for len(b) > 0 {
			n := 1 + r.Intn(min(len(b), 40))
			fs, e := re.Feed(b[:n])
			if e != api.OK || re.Waiting() >= 39 {
				t.Fatalf("%d, %d wait", e, re.Waiting())
			}
			got = append(got, fs...)
			b = b[n:]
			fed += n
		}
		if !slices.EqualFunc(got, l, frame.Frame.Equal) || re.Waiting() != fed-len(row(l...)) {
			t.Fatalf("%v, not %v", got, l)
		}
	}
}

// The rule on memory.
func TestShares(t *testing.T) {
	r := reader(t, 8)
	b := row(ping)
	want := bytes.Clone(b)
	half := append(make([]byte, 0, 64), b[:12]...)
	r.Feed(half)
	clear(half)
	l, _ := r.Feed(b[12:])
	if len(l) != 1 || !l[0].Equal(ping) || !bytes.Equal(b, want) {
		t.Errorf("%v", l)
	}
}
