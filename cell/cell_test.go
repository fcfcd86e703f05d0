package cell

import (
	"bytes"
	"math"
	"slices"
	"testing"

	"squint/api"
	"squint/frame"
	"squint/payload"
)

var noCell = []int{0, -1, api.MaxCell + 1, math.MinInt, math.MaxInt}

// P20.1
func TestLenAndRoom(t *testing.T) {
	for _, cell := range []int{1, 10, 256, api.MaxCell} {
		if Len(cell) != cell+18 || Room(cell) != cell+9 {
			t.Errorf("cell %d: %d, %d", cell, Len(cell), Room(cell))
		}
	}
	for _, cell := range noCell {
		if Len(cell) != 0 || Room(cell) != 0 {
			t.Errorf("cell %d: %d, %d", cell, Len(cell), Room(cell))
		}
	}
}

// P20.1
func TestFill(t *testing.T) {
	for _, cell := range []int{1, 10, 255, 256, api.MaxCell} {
		for _, n := range []int{0, 1, cell, cell + 8, cell + 9} {
			b := bytes.Repeat([]byte{7}, n)
			slot, e := Fill(b, cell)
			filler, _ := frame.Frame{Type: Filler, Payload: make([]byte, cell+9-n)}.Bytes()
			if want := append(b, filler...); !bytes.Equal(slot, want) || e != api.OK || len(slot) != Len(cell) {
				t.Errorf("Fill of %d, cell %d: %x, %d", n, cell, slot, e)
			}
		}
		if slot, e := Fill(make([]byte, cell+10), cell); len(slot) != 0 || e != api.ErrFull {
			t.Errorf("Fill above the room of %d: %d", cell, e)
		}
	}
	for _, cell := range noCell {
		if slot, e := Fill(nil, cell); len(slot) != 0 || e != api.ErrRange {
			t.Errorf("Fill, cell %d: %d", cell, e)
		}
		if slot, e := Fill(make([]byte, 5000), cell); len(slot) != 0 || e != api.ErrRange {
			t.Errorf("Fill of 5000, cell %d: %d", cell, e)
		}
	}
	slot, _ := Fill(nil, 10)
	if want := []byte{0, 0, 19, 250, 0, 0, 0, 0, 0}; !bytes.Equal(slot[:9], want) || len(slot) != 28 || len(bytes.TrimLeft(slot[9:], "\x00")) != 0 {
		t.Errorf("an empty one: %x", slot)
	}
	if Filler != 250 {
		t.Errorf("Filler: %d", Filler)
	}
}

// P20.1
func TestFramesAndOpen(t *testing.T) {
	one := frame.Frame{Type: frame.Data, Flags: 1, Stream: 5, Payload: []byte("abc")}
	two := frame.Frame{Type: frame.Ping, Payload: []byte("abcdefgh")}
	wrong := frame.Frame{Type: -1}
	for _, c := range []struct {
		l    []frame.Frame
		cell int
		e    api.Errno
	}{
		{nil, 1, api.OK}, {[]frame.Frame{one}, 3, api.OK}, {[]frame.Frame{one}, 2, api.ErrFull}, {[]frame.Frame{one, two}, 20, api.OK}, {[]frame.Frame{one, two}, 19, api.ErrFull},
		{[]frame.Frame{one, wrong}, 20, api.ErrForm}, {[]frame.Frame{one, two, wrong}, 1, api.ErrForm}, {[]frame.Frame{wrong}, 0, api.ErrForm}, {[]frame.Frame{one}, 0, api.ErrRange}, {nil, api.MaxCell + 1, api.ErrRange},
	} {
		slot, e := Frames(c.l, c.cell)
		if e != c.e || e != api.OK && len(slot) != 0 || e == api.OK && len(slot) != Len(c.cell) {
			t.Errorf("Frames of %v, cell %d: %d bytes, %d", c.l, c.cell, len(slot), e)
		}
		if e == api.OK {
			var row []byte
			for _, f := range c.l {
				b, _ := f.Bytes()
				row = append(row, b...)
			}
			if want, _ := Fill(row, c.cell); !bytes.Equal(slot, want) {
				t.Errorf("Frames of %v: %x", c.l, slot)
			}
			if l, e := Open(slot, c.cell); !slices.EqualFunc(l, c.l, frame.Frame.Equal) || e != api.OK {
				t.Errorf("Open of %v: %v, %d", c.l, l, e)
			}
		}
	}
}

// P20.1
func TestOpenRefuses(t *testing.T) {
	slot, _ := Frames([]frame.Frame{{Type: frame.Data, Stream: 5, Payload: []byte("abc")}}, 10)
	for _, cell := range noCell {
		if l, e := Open(slot, cell); len(l) != 0 || e != api.ErrRange {
			t.Errorf("Open, cell %d: %v, %d", cell, l, e)
		}
	}
	long, _ := Fill(make([]byte, 19), 10) // two empty Datas, and one byte that makes the third's length
	short := bytes.Clone(slot)
	short[2]--
	wide := bytes.Clone(slot)
	wide[0] = 255
	for i, b := range [][]byte{nil, slot[:27], append(bytes.Clone(slot), 0), short, wide, long[:28]} {
		if i == 5 {
			b[20] = 9
		}
		if l, e := Open(b, 10); len(l) != 0 || e != api.ErrForm {
			t.Errorf("Open of the slot %d: %v, %d", i, l, e)
		}
	}
	one, _ := frame.Frame{Type: 9, Payload: make([]byte, 18)}.Bytes()
	if l, e := Open(append(one, 0), 10); len(l) != 0 || e != api.ErrForm {
		t.Errorf("Open with a byte behind: %v, %d", l, e)
	}
	// without a filler, but whole
	whole, _ := frame.Frame{Type: 9, Payload: make([]byte, 19)}.Bytes()
	if l, e := Open(whole, 10); len(l) != 1 || e != api.OK {
		t.Errorf("Open without a filler: %v, %d", l, e)
	}
	// a filler between two others
	row, _ := frame.Frame{Type: Filler, Flags: 3, Stream: 9, Payload: []byte{1}}.Bytes()
	ping, _ := frame.Frame{Type: frame.Ping}.Bytes()
	slot, _ = Fill(append(row, ping...), 10)
	if l, e := Open(slot, 10); len(l) != 1 || l[0].Type != frame.Ping || e != api.OK {
		t.Errorf("Open with a filler ahead: %v, %d", l, e)
	}
}

// P20.2
func TestCells(t *testing.T) {
	for _, c := range [][3]int{
		{1, 10, 1}, {9, 10, 1}, {10, 10, 2}, {18, 10, 2}, {19, 10, 3}, {5, 2, 5}, {1, 2, 1}, {math.MaxInt, 2, math.MaxInt}, {math.MaxInt, math.MaxInt, 2}, {5, math.MaxInt, 1},
		{0, 10, 0}, {-1, 10, 0}, {5, 1, 0}, {5, 0, 0}, {5, -1, 0}, {math.MinInt, 10, 0}, {5, math.MinInt, 0},
	} {
		if got := Cells(c[0], c[1]); got != c[2] {
			t.Errorf("Cells(%d, %d): %d", c[0], c[1], got)
		}
	}
}

// P20.2
func TestPad(t *testing.T) {
	f, e := Pad(5, []byte("ab"), false, 5)
	if want := (frame.Frame{Type: frame.Data, Flags: 8, Stream: 5, Payload: []byte{2, 'a', 'b', 0, 0}}); !f.Equal(want) || e != api.OK {
		t.Errorf("Pad: %v, %d", f, e)
	}
	for _, c := range []struct {
		stream, n, cell int
		e               api.Errno
	}{
		{1, 0, 2, api.OK}, {api.MaxStream, 1, 2, api.OK}, {1, 2, 2, api.ErrFull}, {1, 0, 256, api.OK}, {1, 0, 257, api.ErrFull}, {1, 1, 257, api.OK}, {1, 1023, 1024, api.OK},
		{1, 768, 1024, api.OK}, {1, 767, 1024, api.ErrFull}, {1, 1024, 1024, api.ErrFull}, {1, 5000, 10, api.ErrFull},
		{0, 1, 10, api.ErrRange}, {-1, 1, 10, api.ErrRange}, {api.MaxStream + 1, 1, 10, api.ErrRange}, {1, 0, 1, api.ErrRange}, {1, 0, 0, api.ErrRange}, {1, 0, api.MaxCell + 1, api.ErrRange},
		{0, 5000, 10, api.ErrRange}, {math.MinInt, 0, 10, api.ErrRange}, {1, 0, math.MaxInt, api.ErrRange}, {1, 0, math.MinInt, api.ErrRange},
	} {
		for _, end := range []bool{false, true} {
			text := bytes.Repeat([]byte{'x'}, c.n)
			f, e := Pad(c.stream, text, end, c.cell)
			if e != c.e || e != api.OK && !f.Equal(frame.Frame{}) {
				t.Errorf("Pad(%d, %d, %d): %v, %d", c.stream, c.n, c.cell, f, e)
			}
			if e != api.OK {
				continue
			}
			x, fault := payload.Parse(f)
			if !fault.OK() || !bytes.Equal(x.Text, text) || x.End != end || x.Flow != c.cell || len(f.Payload) != c.cell || f.Stream != c.stream || !f.Has(payload.Padded) {
				t.Errorf("Pad(%d, %d, %d): %v, %v", c.stream, c.n, c.cell, f, fault)
			}
			if len(bytes.TrimLeft(f.Payload[1+c.n:], "\x00")) != 0 {
				t.Errorf("Pad(%d, %d, %d): the padding is %x", c.stream, c.n, c.cell, f.Payload[1+c.n:])
			}
		}
	}
}
