package window

import (
	"math"
	"slices"
	"testing"

	"squint/api"
)

func window(t *testing.T, n int) Window {
	w, e := New(n)
	if e != api.OK {
		t.Fatalf("New(%d): %d", n, e)
	}
	return w
}

var wrong = []int{-1, api.MaxWindow + 1, math.MinInt, math.MaxInt}

// P15.1
func TestNew(t *testing.T) {
	for _, n := range []int{0, 1, 65535, api.MaxWindow} {
		if w := window(t, n); w.Size() != n {
			t.Errorf("New(%d): %d", n, w.Size())
		}
	}
	for _, n := range wrong {
		if w, e := New(n); w != (Window{}) || e != api.ErrRange {
			t.Errorf("New(%d): %v, %d", n, w, e)
		}
	}
}

// P15.1
func TestGrow(t *testing.T) {
	for _, c := range []struct {
		size, n int
		e       api.Errno
	}{
		{0, 1, api.OK}, {0, api.MaxWindow, api.OK}, {1, api.MaxWindow, api.FlowControl}, {api.MaxWindow, 1, api.FlowControl}, {api.MaxWindow - 1, 1, api.OK},
		{5, 0, api.ErrRange}, {5, -1, api.ErrRange}, {5, api.MaxWindow + 1, api.ErrRange}, {5, math.MaxInt, api.ErrRange}, {5, math.MinInt, api.ErrRange},
	} {
		w := window(t, c.size)
		want := c.size
		if c.e == api.OK {
			want += c.n
		}
		if e := w.Grow(c.n); e != c.e || w.Size() != want {
			t.Errorf("Grow(%d) of %d: %d, %d", c.n, c.size, e, w.Size())
		}
	}
}

// P15.1
func TestSpendAndCan(t *testing.T) {
	for _, c := range []struct {
		size, n int
		e       api.Errno
		can     bool
	}{
		{10, 0, api.OK, true}, {10, 1, api.OK, true}, {1, 1, api.OK, true}, {10, 2, api.OK, true}, {10, 10, api.OK, true}, {10, 11, api.ErrFull, false}, {0, 0, api.OK, true}, {0, 1, api.ErrFull, false},
		{api.MaxWindow, api.MaxWindow, api.OK, true}, {10, api.MaxWindow, api.ErrFull, false},
		{10, -1, api.ErrRange, false}, {10, api.MaxWindow + 1, api.ErrRange, false}, {10, math.MaxInt, api.ErrRange, false}, {10, math.MinInt, api.ErrRange, false},
	} {
		w := window(t, c.size)
		if w.Can(c.n) != c.can {
			t.Errorf("Can(%d) of %d: %v", c.n, c.size, w.Can(c.n))
		}
		want := c.size
		if c.e == api.OK {
			want -= c.n
		}
		if e := w.Spend(c.n); e != c.e || w.Size() != want {
			t.Errorf("Spend(%d) of %d: %d, %d", c.n, c.size, e, w.Size())
		}
	}
	w := window(t, 10)
	w.Shift(10, 5)
	w.Spend(5)
	w.Shift(5, 0)
	if w.Size() != -5 || w.Can(1) || !w.Can(0) || w.Can(-1) || w.Spend(0) != api.OK || w.Spend(1) != api.ErrFull || w.Size() != -5 {
		t.Errorf("below nothing: %d", w.Size())
	}
	if e := w.Grow(6); e != api.OK || w.Size() != 1 {
		t.Errorf("Grow from below: %d, %d", e, w.Size())
	}
}

// P15.2
func TestShift(t *testing.T) {
	w := window(t, 10)
	w.Spend(7)
	if e := w.Shift(10, 5); e != api.OK || w.Size() != -2 {
		t.Errorf("Shift(10, 5): %d, %d", e, w.Size())
	}
	for _, c := range []struct {
		size, from, to int
		e              api.Errno
	}{
		{5, 0, 0, api.OK}, {5, 10, 20, api.OK}, {5, 20, 10, api.OK}, {0, 0, api.MaxWindow, api.OK}, {1, 0, api.MaxWindow, api.FlowControl}, {1, 1, api.MaxWindow, api.OK},
		{api.MaxWindow, 0, 1, api.FlowControl}, {api.MaxWindow, 5, 5, api.OK}, {0, api.MaxWindow, 0, api.OK}, {api.MaxWindow, api.MaxWindow, 0, api.OK},
	} {
		w := window(t, c.size)
		want := c.size
		if c.e == api.OK {
			want += c.to - c.from
		}
		if e := w.Shift(c.from, c.to); e != c.e || w.Size() != want {
			t.Errorf("Shift(%d, %d) of %d: %d, %d", c.from, c.to, c.size, e, w.Size())
		}
	}
	for _, n := range wrong {
		w := window(t, 5)
		if e := w.Shift(n, 0); e != api.ErrRange || w.Size() != 5 {
			t.Errorf("Shift(%d, 0): %d, %d", n, e, w.Size())
		}
		if e := w.Shift(0, n); e != api.ErrRange || w.Size() != 5 {
			t.Errorf("Shift(0, %d): %d, %d", n, e, w.Size())
		}
	}
	// the least size, and one below it
	low := window(t, 0)
	low.Shift(api.MaxWindow, 0)
	if e := low.Shift(1, 0); e != api.OK || low.Size() != math.MinInt32 {
		t.Errorf("down to the least: %d, %d", e, low.Size())
	}
	if e := low.Shift(1, 0); e != api.ErrRange || low.Size() != math.MinInt32 {
		t.Errorf("below the least: %d, %d", e, low.Size())
	}
	if e := low.Shift(0, api.MaxWindow); e != api.OK || low.Size() != -1 {
		t.Errorf("up again: %d, %d", e, low.Size())
	}
}

// Ways: a window is a value that is copied.
func TestCopied(t *testing.T) {
	w := window(t, 10)
	v := w
	v.Spend(3)
	if w.Size() != 10 || v.Size() != 7 {
		t.Errorf("%d, %d", w.Size(), v.Size())
	}
}

// P15.3
func TestParts(t *testing.T) {
	for _, c := range []struct {
		total, n int
		want     []int
	}{
		{65535, 3, []int{21845, 21845, 21845}}, {4, 3, []int{2, 1, 1}}, {5, 3, []int{2, 2, 1}}, {2, 3, []int{1, 1, 0}}, {0, 2, []int{0, 0}}, {7, 1, []int{7}},
		{-1, 3, nil}, {5, 0, nil}, {5, -1, nil}, {5, 65, nil}, {math.MinInt, 3, nil}, {5, math.MaxInt, nil},
	} {
		if got := Parts(c.total, c.n); !slices.Equal(got, c.want) {
			t.Errorf("Parts(%d, %d): %v", c.total, c.n, got)
		}
	}
	for _, total := range []int{0, 1, 63, 64, 65535, api.MaxWindow, math.MaxInt} {
		for n := 1; n <= 64; n++ {
			l := Parts(total, n)
			rest := total
			for i, x := range l {
				rest -= x
				if i > 0 && x > l[i-1] || l[0]-x > 1 {
					t.Fatalf("Parts(%d, %d): %v", total, n, l)
				}
			}
			if len(l) != n || rest != 0 {
				t.Fatalf("Parts(%d, %d): %v", total, n, l)
			}
		}
	}
}

// P15.3
func TestOwed(t *testing.T) {
	for _, c := range [][4]int{
		{10, 3, 7, 7}, {10, 3, 8, 0}, {10, 3, 6, 7}, {10, 10, 0, 0}, {10, 11, -5, 0}, {10, 3, -5, 7}, {0, 0, 0, 0}, {1, 0, 0, 1}, {0, -5, 5, 5}, {-5, -10, 5, 5},
		{math.MinInt, 1, 0, 0}, {math.MinInt, math.MaxInt, math.MinInt, 0}, {math.MaxInt, 0, math.MaxInt, math.MaxInt}, {5, 10, math.MinInt, 0},
	} {
		if got := Owed(c[0], c[1], c[2]); got != c[3] {
			t.Errorf("Owed(%d, %d, %d): %d", c[0], c[1], c[2], got)
		}
	}
}
