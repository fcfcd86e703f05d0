package queue

import (
	"bytes"
	"math"
	"math/rand"
	"testing"

	"squint/api"
)

func queue(t *testing.T, tenants, bytes, items int) *Queue {
	q, e := New(tenants, bytes, items)
	if e != api.OK {
		t.Fatalf("New(%d, %d, %d): %d", tenants, bytes, items, e)
	}
	return q
}

func item(number int, head, body string) Item {
	return Item{Number: number, Head: []byte(head), Body: []byte(body)}
}

func same(x, y Item) bool {
	return x.Number == y.Number && bytes.Equal(x.Head, y.Head) && bytes.Equal(x.Body, y.Body)
}

// P18.1
func TestNew(t *testing.T) {
	for _, c := range [][3]int{{1, 0, 1}, {64, 1 << 20, 1 << 12}} {
		if q := queue(t, c[0], c[1], c[2]); q.Len(0) != 0 || q.Bytes(0) != 0 || q.Clear() != 0 {
			t.Errorf("New(%v)", c)
		}
	}
	for _, c := range [][3]int{
		{0, 5, 5}, {65, 5, 5}, {-1, 5, 5}, {5, -1, 5}, {5, 1<<20 + 1, 5}, {5, 5, 0}, {5, 5, -1}, {5, 5, 1<<12 + 1}, {math.MaxInt, 5, 5}, {5, math.MinInt, 5}, {5, 5, math.MaxInt},
	} {
		if q, e := New(c[0], c[1], c[2]); q != nil || e != api.ErrRange {
			t.Errorf("New(%v): %v, %d", c, q, e)
		}
	}
}

// P18.1
func TestPut(t *testing.T) {
	q := queue(t, 2, 10, 3)
	if e := q.Put(0, item(1, "abc", "def")); e != api.OK || q.Bytes(0) != 6 || q.Len(0) != 1 {
		t.Errorf("six: %d", e)
	}
	if e := q.Put(0, item(2, "abc", "de")); e != api.ErrQuota || q.Bytes(0) != 6 || q.Len(0) != 1 {
		t.Errorf("five more: %d", e)
	}
	if e := q.Put(0, item(2, "abcd", "")); e != api.OK || q.Bytes(0) != 10 {
		t.Errorf("four more: %d", e)
	}
	if e := q.Put(0, item(3, "", "")); e != api.OK || q.Len(0) != 3 {
		t.Errorf("nothing more: %d", e)
	}
	if e := q.Put(0, item(4, "", "")); e != api.ErrQuota || q.Len(0) != 3 {
		t.Errorf("a fourth one: %d", e)
	}
	if e := q.Put(1, item(0, "", "abcdefghij")); e != api.OK || q.Bytes(1) != 10 || q.Len(1) != 1 {
		t.Errorf("another tenant's: %d", e)
	}
	for _, tenant := range []int{-1, 2, math.MinInt, math.MaxInt} {
		if e := q.Put(tenant, item(0, "", "")); e != api.ErrRange {
			t.Errorf("Put(%d): %d", tenant, e)
		}
		if e := q.Put(tenant, item(0, "", "abcdefghijk")); e != api.ErrRange {
			t.Errorf("Put(%d): %d", tenant, e)
		}
		if q.Bytes(tenant) != 0 || q.Len(tenant) != 0 {
			t.Errorf("the tenant %d has %d", tenant, q.Bytes(tenant))
		}
	}
	if item(1, "abc", "de").Size() != 5 || (Item{}).Size() != 0 {
		t.Errorf("Size")
	}
	none := queue(t, 1, 0, 2)
	if e := none.Put(0, item(0, "a", "")); e != api.ErrQuota {
		t.Errorf("no bytes: %d", e)
	}
	if e := none.Put(0, item(0, "", "")); e != api.OK {
		t.Errorf("an empty one: %d", e)
	}
}

// P18.2
func TestFirstCutPop(t *testing.T) {
	q := queue(t, 2, 100, 5)
	for _, tenant := range []int{0, -1, 2, math.MaxInt, math.MinInt} {
		x, e := q.First(tenant)
		y, f := q.Pop(tenant)
		b, g := q.Cut(tenant, 0)
		_, h := q.Cut(tenant, -1)
		if !same(x, Item{}) || !same(y, Item{}) || len(b) != 0 || e != api.ErrNone || f != api.ErrNone || g != api.ErrNone || h != api.ErrNone {
			t.Errorf("tenant %d: %d, %d, %d, %d", tenant, e, f, g, h)
		}
	}
	q.Put(0, item(7, "ab", "cdefg"))
	q.Put(0, item(8, "hi", ""))
	for range 2 {
		if x, e := q.First(0); !same(x, item(7, "ab", "cdefg")) || e != api.OK || q.Len(0) != 2 {
			t.Errorf("First: %v, %d", x, e)
		}
	}
	for _, n := range []int{-1, 6, math.MaxInt, math.MinInt} {
		if b, e := q.Cut(0, n); len(b) != 0 || e != api.ErrRange || q.Bytes(0) != 9 {
			t.Errorf("Cut(%d): %q, %d", n, b, e)
		}
	}
	if b, e := q.Cut(0, 3); string(b) != "cde" || e != api.OK || q.Bytes(0) != 6 || q.Len(0) != 2 {
		t.Errorf("Cut(3): %q, %d", b, e)
	}
	if b, e := q.Cut(0, 0); len(b) != 0 || e != api.OK {
		t.Errorf("Cut(0): %q, %d", b, e)
	}
	if _, e := q.Cut(0, 3); e != api.ErrRange {
		t.Errorf("Cut(3) again: %d", e)
	}
	if x, _ := q.First(0); !same(x, item(7, "ab", "fg")) {
		t.Errorf("First: %v", x)
	}
	if b, e := q.Cut(0, 2); string(b) != "fg" || e != api.OK {
		t.Errorf("Cut(2): %q, %d", b, e)
	}
	if x, e := q.Pop(0); !same(x, item(7, "ab", "")) || e != api.OK || q.Bytes(0) != 2 || q.Len(0) != 1 {
		t.Errorf("Pop: %v, %d", x, e)
	}
	if x, e := q.Pop(0); !same(x, item(8, "hi", "")) || e != api.OK || q.Bytes(0) != 0 || q.Len(0) != 0 {
		t.Errorf("Pop: %v, %d", x, e)
	}
	if _, e := q.Pop(0); e != api.ErrNone {
		t.Errorf("Pop: %d", e)
	}
}

// P18.2
func TestDropAndClear(t *testing.T) {
	q := queue(t, 2, 100, 9)
	q.Put(0, item(1, "a", ""))
	q.Put(0, item(2, "bb", ""))
	q.Put(0, item(1, "ccc", ""))
	q.Put(1, item(1, "dddd", ""))
	for _, c := range [][2]int{{0, 3}, {-1, 1}, {2, 1}, {math.MaxInt, 1}, {1, 2}} {
		if q.Drop(c[0], c[1]) {
			t.Errorf("Drop(%v)", c)
		}
	}
	if !q.Drop(0, 2) || q.Bytes(0) != 4 || q.Len(0) != 2 {
		t.Errorf("Drop of the second one: %d bytes", q.Bytes(0))
	}
	if !q.Drop(0, 1) || q.Bytes(0) != 3 || q.Len(0) != 1 {
		t.Errorf("Drop of the first one: %d bytes", q.Bytes(0))
	}
	if x, _ := q.First(0); string(x.Head) != "ccc" || q.Bytes(1) != 4 {
		t.Errorf("left: %v", x)
	}
	q.Put(0, item(5, "", "x"))
	if n := q.Clear(); n != 3 || q.Bytes(0)+q.Len(0)+q.Bytes(1)+q.Len(1) != 0 {
		t.Errorf("Clear: %d", n)
	}
	if n := q.Clear(); n != 0 {
		t.Errorf("Clear again: %d", n)
	}
	if e := q.Put(0, Item{Body: make([]byte, 100)}); e != api.OK {
		t.Errorf("Put behind Clear: %d", e)
	}
}

// The rule on memory.
func TestShares(t *testing.T) {
	q := queue(t, 1, 100, 5)
	x := Item{1, append(make([]byte, 0, 9), "abc"...), append(make([]byte, 0, 9), "defg"...)}
	q.Put(0, x)
	x.Head[0], x.Body[0] = 'X', 'X'
	first, _ := q.First(0)
	if !same(first, item(1, "abc", "defg")) {
		t.Errorf("what is handed in is kept: %v", first)
	}
	first.Head[0], first.Body[0] = 'Y', 'Y'
	cut, _ := q.Cut(0, 2)
	if string(cut) != "de" {
		t.Errorf("what is told is kept: %q", cut)
	}
	_ = append(cut, "ZZZZ"...)
	cut[0] = 'Z'
	if last, _ := q.Pop(0); !same(last, item(1, "abc", "fg")) {
		t.Errorf("what is told is kept: %v", last)
	}
}

// P18.1, P18.2: what one tenant does changes nothing of another one's answers.
func TestTenantsStandAlone(t *testing.T) {
	r := rand.New(rand.NewSource(1))
	for range 100 {
		a, b := queue(t, 3, 50, 4), queue(t, 3, 50, 4)
		for range 100 {
			tenant, n := r.Intn(3), r.Intn(20)
			do := func(q *Queue) (string, api.Errno) {
				switch r := n % 4; r {
				case 0:
					return "", q.Put(tenant, Item{n, make([]byte, n), make([]byte, 20-n)})
				case 1:
					c, e := q.Cut(tenant, n)
					return string(c), e
				case 2:
					x, e := q.Pop(tenant)
					return string(x.Body), e
				}
				q.Drop(tenant, n-3)
				return "", api.OK
			}
			s, e := do(a)
			if tenant == 1 {
				if u, f := do(b); s != u || e != f {
					t.Fatalf("%q, %d and %q, %d", s, e, u, f)
				}
			}
			if a.Bytes(1) != b.Bytes(1) || a.Len(1) != b.Len(1) {
				t.Fatalf("%d bytes and %d", a.Bytes(1), b.Bytes(1))
			}
			sum := 0
			for i := range a.rows {
				for _, x := range a.rows[i].items {
					sum += x.Size()
				}
			}
			if sum != a.Bytes(0)+a.Bytes(1)+a.Bytes(2) {
				t.Fatalf("%d bytes, not %d", a.Bytes(0)+a.Bytes(1)+a.Bytes(2), sum)
			}
		}
	}
}
