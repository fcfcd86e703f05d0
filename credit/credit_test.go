package credit

import (
	"math"
	"math/rand"
	"slices"
	"testing"

	"squint/api"
)

func credit(t *testing.T, tenants int) *Credit {
	c, e := New(tenants)
	if e != api.OK {
		t.Fatalf("New(%d): %d", tenants, e)
	}
	return c
}

func is(c *Credit, parts ...int) bool {
	sum := 0
	for i, p := range parts {
		if c.Left(i) != p {
			return false
		}
		sum += p
	}
	return slices.Equal(c.Parts(), parts) && c.Whole() == sum
}

// P17.1, P17.2
func TestNew(t *testing.T) {
	for _, c := range []struct {
		tenants int
		parts   []int
	}{{1, []int{65535}}, {2, []int{32768, 32767}}, {3, []int{21845, 21845, 21845}}, {4, []int{16384, 16384, 16384, 16383}}} {
		if x := credit(t, c.tenants); !is(x, c.parts...) {
			t.Errorf("New(%d): %v, %d", c.tenants, x.Parts(), x.Whole())
		}
	}
	if x := credit(t, 64); len(x.Parts()) != 64 || x.Left(0) != 1024 || x.Left(63) != 1023 || x.Whole() != 65535 {
		t.Errorf("New(64): %v", x.Parts())
	}
	for _, n := range []int{0, -1, 65, math.MaxInt, math.MinInt} {
		if c, e := New(n); c != nil || e != api.ErrRange {
			t.Errorf("New(%d): %v, %d", n, c, e)
		}
	}
}

// P17.1: the chapter's example, and around.
func TestGrantGoesAround(t *testing.T) {
	c := credit(t, 3)
	for i, want := range [][]int{{2, 1, 1}, {3, 3, 2}, {4, 4, 4}, {6, 5, 5}} {
		if e := c.Grant(4); e != api.OK || !is(c, 21845+want[0], 21845+want[1], 21845+want[2]) {
			t.Errorf("grant %d: %d, %v", i, e, c.Parts())
		}
	}
	d := credit(t, 3)
	for i, want := range [][]int{{1, 0, 0}, {1, 1, 0}, {1, 1, 1}, {2, 1, 1}} {
		if e := d.Grant(1); e != api.OK || !is(d, 21845+want[0], 21845+want[1], 21845+want[2]) {
			t.Errorf("grant %d: %d, %v", i, e, d.Parts())
		}
	}
}

// P17.1: what is refused takes no turn.
func TestGrantRefuses(t *testing.T) {
	c := credit(t, 2)
	for _, x := range []struct {
		n int
		e api.Errno
	}{
		{0, api.ErrRange}, {-1, api.ErrRange}, {api.MaxWindow + 1, api.ErrRange}, {math.MaxInt, api.ErrRange}, {math.MinInt, api.ErrRange},
		{api.MaxWindow, api.FlowControl}, {api.MaxWindow - 65535 + 1, api.FlowControl},
	} {
		if e := c.Grant(x.n); e != x.e || !is(c, 32768, 32767) {
			t.Errorf("Grant(%d): %d, %v", x.n, e, c.Parts())
		}
	}
	if e := c.Grant(1); e != api.OK || !is(c, 32769, 32767) {
		t.Errorf("Grant(1): %d, %v", e, c.Parts())
	}
	if e := c.Grant(api.MaxWindow - 65536); e != api.OK || c.Whole() != api.MaxWindow {
		t.Errorf("up to the most: %d, %d", e, c.Whole())
	}
	if e := c.Grant(1); e != api.FlowControl {
		t.Errorf("above it: %d", e)
	}
}

// P17.1
func TestSpend(t *testing.T) {
	c := credit(t, 3)
	for _, x := range []struct {
		tenant, n int
		e         api.Errno
	}{
		{-1, 1, api.ErrRange}, {3, 1, api.ErrRange}, {math.MaxInt, 1, api.ErrRange}, {math.MinInt, 1, api.ErrRange}, {3, 0, api.ErrRange},
		{0, -1, api.ErrRange}, {0, api.MaxWindow + 1, api.ErrRange}, {0, math.MaxInt, api.ErrRange}, {0, 21846, api.ErrFull}, {0, api.MaxWindow, api.ErrFull},
	} {
		if e := c.Spend(x.tenant, x.n); e != x.e || !is(c, 21845, 21845, 21845) {
			t.Errorf("Spend(%d, %d): %d, %v", x.tenant, x.n, e, c.Parts())
		}
	}
	if e := c.Spend(1, 21845); e != api.OK || !is(c, 21845, 0, 21845) {
		t.Errorf("all of it: %d, %v", e, c.Parts())
	}
	if e := c.Spend(1, 1); e != api.ErrFull {
		t.Errorf("one more: %d", e)
	}
	if e := c.Spend(1, 0); e != api.OK || !is(c, 21845, 0, 21845) {
		t.Errorf("nothing: %d, %v", e, c.Parts())
	}
	for _, tenant := range []int{-1, 3, math.MaxInt, math.MinInt} {
		if c.Left(tenant) != 0 {
			t.Errorf("Left(%d): %d", tenant, c.Left(tenant))
		}
	}
}

// P17.2
func TestCopyAndParts(t *testing.T) {
	c := credit(t, 2)
	c.Grant(1)
	d := c.Copy()
	c.Spend(0, 5)
	c.Parts()[1] = 0
	if !is(c, 32764, 32767) || !is(d, 32769, 32767) {
		t.Errorf("%v, %v", c.Parts(), d.Parts())
	}
	d.Grant(1) // the copy's turn is the second tenant's too
	if !is(d, 32769, 32768) || !is(c, 32764, 32767) {
		t.Errorf("%v, %v", c.Parts(), d.Parts())
	}
}

// P17.2: what another tenant spends is not to be seen in a tenant's part.
func TestPartsStandAlone(t *testing.T) {
	r := rand.New(rand.NewSource(1))
	for range 50 {
		a, b := credit(t, 5), credit(t, 5)
		for range 200 {
			n := 1 + r.Intn(3000)
			switch r.Intn(3) {
			case 0:
				if a.Grant(n) != b.Grant(n) {
					t.Fatalf("Grant(%d) differs", n)
				}
			case 1: // the tenant 2 in both
				if a.Spend(2, n) != b.Spend(2, n) {
					t.Fatalf("Spend(2, %d) differs", n)
				}
			case 2: // others in one alone
				a.Spend([]int{0, 1, 3, 4}[r.Intn(4)], n)
			}
			sum := 0
			for _, p := range a.Parts() {
				sum += p
			}
			if a.Left(2) != b.Left(2) || a.Whole() != sum {
				t.Fatalf("%v, %v", a.Parts(), b.Parts())
			}
		}
	}
}
