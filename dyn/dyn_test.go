package dyn

import (
	"math"
	"math/rand"
	"slices"
	"strings"
	"testing"

	"squint/api"
	"squint/static"
)

// wide is a field of that size.
func wide(name string, size int) static.Field {
	return static.Field{Name: name, Value: strings.Repeat("x", size-32-len(name))}
}

func table(t *testing.T, limit int) *Table {
	tab, e := New(limit)
	if e != api.OK {
		t.Fatalf("New(%d): %d", limit, e)
	}
	return tab
}

// P6.1
func TestNew(t *testing.T) {
	for _, limit := range []int{0, 1, 4096, api.MaxTable} {
		if tab := table(t, limit); tab.Limit() != limit || tab.Len() != 0 || tab.Size() != 0 {
			t.Errorf("New(%d): %d, %d, %d", limit, tab.Limit(), tab.Len(), tab.Size())
		}
	}
	for _, limit := range []int{-1, api.MaxTable + 1, math.MinInt, math.MaxInt} {
		if tab, e := New(limit); tab != nil || e != api.ErrRange {
			t.Errorf("New(%d): %v, %d", limit, tab, e)
		}
	}
}

// P6.1
func TestAddLetsTheOldestGo(t *testing.T) {
	tab := table(t, 80)
	a, b, c := wide("a", 40), wide("b", 40), wide("c", 40)
	if n := tab.Add(a) + tab.Add(b); n != 0 || tab.Size() != 80 || tab.Len() != 2 {
		t.Errorf("two fields: %d went, size %d", n, tab.Size())
	}
	if n := tab.Add(c); n != 1 || tab.Size() != 80 {
		t.Errorf("a third one: %d went, size %d", n, tab.Size())
	}
	if got := slices.Collect(tab.All()); !slices.Equal(got, []static.Field{c, b}) {
		t.Errorf("left: %v", got)
	}
	if n := tab.Add(wide("d", 41)); n != 2 || tab.Len() != 1 || tab.Size() != 41 {
		t.Errorf("one of 41: %d went, size %d", n, tab.Size())
	}
	if n := tab.Add(wide("e", 39)); n != 0 || tab.Len() != 2 || tab.Size() != 80 {
		t.Errorf("one of 39: %d went, size %d", n, tab.Size())
	}
	if n := tab.Add(wide("f", 80)); n != 2 || tab.Len() != 1 || tab.Size() != 80 {
		t.Errorf("one of 80: %d went, size %d", n, tab.Size())
	}
	if n := tab.Add(wide("g", 81)); n != 1 || tab.Len() != 0 || tab.Size() != 0 {
		t.Errorf("one of 81: %d went, size %d", n, tab.Size())
	}
	if n := tab.Add(wide("g", 81)); n != 0 || tab.Len() != 0 {
		t.Errorf("one of 81 again: %d went", n)
	}
	none := table(t, 0)
	if n := none.Add(static.Field{}); n != 0 || none.Len() != 0 {
		t.Errorf("limit 0: %d", none.Len())
	}
}

// P6.1
func TestResize(t *testing.T) {
	tab := table(t, 200)
	for _, name := range []string{"a", "b", "c", "d"} {
		tab.Add(wide(name, 40))
	}
	for _, limit := range []int{-1, api.MaxTable + 1, math.MinInt, math.MaxInt} {
		if n, e := tab.Resize(limit); n != 0 || e != api.ErrRange || tab.Limit() != 200 || tab.Len() != 4 {
			t.Errorf("Resize(%d): %d, %d", limit, n, e)
		}
	}
	for _, c := range [][3]int{{160, 0, 4}, {159, 1, 3}, {api.MaxTable, 0, 3}, {80, 1, 2}, {0, 2, 0}, {100, 0, 0}} {
		n, e := tab.Resize(c[0])
		if n != c[1] || e != api.OK || tab.Len() != c[2] || tab.Limit() != c[0] || tab.Size() != 40*c[2] {
			t.Errorf("Resize(%d): %d went, %d left, size %d", c[0], n, tab.Len(), tab.Size())
		}
		if c[2] > 0 {
			if f, _ := tab.Get(1); f.Name != "d" {
				t.Errorf("the newest one is %s", f.Name)
			}
		}
	}
}

// P6.2
func TestGetAndFind(t *testing.T) {
	tab := table(t, 4096)
	a1, a2, b := static.Field{Name: "a", Value: "1"}, static.Field{Name: "a", Value: "2"}, static.Field{Name: "b", Value: "1"}
	for _, f := range []static.Field{a1, b, a2, a1, b} {
		tab.Add(f)
	}
	for i, want := range []static.Field{b, a1, a2, b, a1} {
		if f, e := tab.Get(i + 1); f != want || e != api.OK {
			t.Errorf("Get(%d): %v, %d", i+1, f, e)
		}
	}
	for _, i := range []int{0, -1, 6, math.MinInt, math.MaxInt} {
		if f, e := tab.Get(i); f != (static.Field{}) || e != api.ErrIndex {
			t.Errorf("Get(%d): %v, %d", i, f, e)
		}
	}
	for _, c := range []struct {
		f     static.Field
		i     int
		exact bool
	}{
		{b, 1, true}, {a1, 2, true}, {a2, 3, true}, {static.Field{Name: "a", Value: "3"}, 2, false}, {static.Field{Name: "b"}, 1, false},
		{static.Field{Name: "c", Value: "1"}, 0, false}, {static.Field{}, 0, false},
	} {
		if i, exact := tab.Find(c.f); i != c.i || exact != c.exact {
			t.Errorf("Find(%v): %d, %v", c.f, i, exact)
		}
	}
	n := 0
	for range tab.All() {
		if n++; n == 2 {
			break
		}
	}
	if n != 2 {
		t.Errorf("All told %d", n)
	}
}

// P6.2 and the rule on what is ranged over: it is told as it is when the loop runs.
func TestAllWhenItRuns(t *testing.T) {
	tab := table(t, 4096)
	all := tab.All()
	tab.Add(static.Field{Name: "a"})
	if got := slices.Collect(all); len(got) != 1 || got[0].Name != "a" {
		t.Errorf("All: %v", got)
	}
}

// P6.2
func TestCopy(t *testing.T) {
	tab := table(t, 100)
	tab.Add(wide("a", 40))
	tab.Add(wide("b", 40))
	other := tab.Copy()
	if other.Limit() != 100 || other.Size() != 80 || !slices.Equal(slices.Collect(other.All()), slices.Collect(tab.All())) {
		t.Errorf("the copy is another one")
	}
	tab.Add(wide("c", 40))
	other.Add(wide("d", 40))
	if f, _ := other.Get(1); f.Name != "d" {
		t.Errorf("the copy's newest one is %s", f.Name)
	}
	if f, _ := tab.Get(1); f.Name != "c" {
		t.Errorf("the newest one is %s", f.Name)
	}
	other.Resize(0)
	if tab.Len() != 2 || tab.Limit() != 100 {
		t.Errorf("the copy's limit is the first one's")
	}
}

// P6.1, P6.2: against a plain list of fields.
func TestAgainstAList(t *testing.T) {
	r := rand.New(rand.NewSource(1))
	tab := table(t, 300)
	var list []static.Field // the newest first
	limit := 300
	for range 5000 {
		gone, want := 0, 0
		if r.Intn(5) == 0 {
			limit = r.Intn(400)
			gone, _ = tab.Resize(limit)
			for static.Sum(list) > limit {
				list = list[:len(list)-1]
				want++
			}
		} else {
			f := wide(string(rune('a'+r.Intn(3))), 33+r.Intn(120))
			gone = tab.Add(f)
			for len(list) > 0 && static.Sum(list)+f.Size() > limit {
				list = list[:len(list)-1]
				want++
			}
			if f.Size() <= limit {
				list = append([]static.Field{f}, list...)
			}
		}
		if gone != want || tab.Len() != len(list) || tab.Size() != static.Sum(list) || tab.Limit() != limit || !slices.Equal(slices.Collect(tab.All()), list) {
			t.Fatalf("%d went, not %d; %d fields, size %d", gone, want, tab.Len(), tab.Size())
		}
	}
}
