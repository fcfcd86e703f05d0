package slots

import (
	"math"
	"slices"
	"testing"

	"squint/api"
)

// P19.1
func TestOwnerAndRound(t *testing.T) {
	for _, c := range []struct {
		tick, tenants, owner, round int
		e                           api.Errno
	}{
		{0, 1, 0, 0, api.OK}, {5, 1, 0, 5, api.OK}, {5, 3, 2, 1, api.OK}, {6, 3, 0, 2, api.OK}, {api.MaxTick, 64, 63, 1<<24 - 1, api.OK}, {63, 64, 63, 0, api.OK}, {64, 64, 0, 1, api.OK},
		{-1, 3, 0, 0, api.ErrRange}, {api.MaxTick + 1, 3, 0, 0, api.ErrRange}, {5, 0, 0, 0, api.ErrRange}, {5, 65, 0, 0, api.ErrRange}, {5, -3, 0, 0, api.ErrRange},
		{math.MinInt, 3, 0, 0, api.ErrRange}, {math.MaxInt, 3, 0, 0, api.ErrRange}, {5, math.MinInt, 0, 0, api.ErrRange}, {5, math.MaxInt, 0, 0, api.ErrRange},
	} {
		if owner, e := Owner(c.tick, c.tenants); owner != c.owner || e != c.e {
			t.Errorf("Owner(%d, %d): %d, %d", c.tick, c.tenants, owner, e)
		}
		if round := Round(c.tick, c.tenants); round != c.round {
			t.Errorf("Round(%d, %d): %d", c.tick, c.tenants, round)
		}
	}
}

// P19.1
func TestNext(t *testing.T) {
	for _, c := range []struct {
		tenant, from, tenants, want int
		e                           api.Errno
	}{
		{2, 3, 3, 5, api.OK}, {0, 3, 3, 3, api.OK}, {0, 4, 3, 6, api.OK}, {0, 0, 1, 0, api.OK}, {63, 0, 64, 63, api.OK}, {63, api.MaxTick, 64, api.MaxTick, api.OK},
		{62, api.MaxTick, 64, 0, api.ErrRange}, {62, api.MaxTick - 1, 64, api.MaxTick - 1, api.OK}, {0, api.MaxTick, 64, 0, api.ErrRange},
		{3, 3, 3, 0, api.ErrRange}, {-1, 3, 3, 0, api.ErrRange}, {0, -1, 3, 0, api.ErrRange}, {0, api.MaxTick + 1, 3, 0, api.ErrRange}, {0, 0, 0, 0, api.ErrRange}, {0, 0, 65, 0, api.ErrRange},
		{math.MaxInt, 3, 3, 0, api.ErrRange}, {math.MinInt, 3, 3, 0, api.ErrRange}, {0, math.MaxInt, 3, 0, api.ErrRange}, {0, 0, math.MinInt, 0, api.ErrRange},
	} {
		if got, e := Next(c.tenant, c.from, c.tenants); got != c.want || e != c.e {
			t.Errorf("Next(%d, %d, %d): %d, %d", c.tenant, c.from, c.tenants, got, e)
		}
	}
	for tenants := 1; tenants <= 7; tenants++ {
		for tenant := range tenants {
			for from := range 20 {
				want := from
				for want%tenants != tenant {
					want++
				}
				if got, e := Next(tenant, from, tenants); got != want || e != api.OK {
					t.Fatalf("Next(%d, %d, %d): %d, %d", tenant, from, tenants, got, e)
				}
			}
		}
	}
}

// P19.2
func TestBetween(t *testing.T) {
	if got := Between(0, 7, 0, 3); got != 3 {
		t.Errorf("Between(0, 7, 0, 3): %d", got)
	}
	for tenants := 1; tenants <= 5; tenants++ {
		for tenant := range tenants {
			for from := range 15 {
				for to := range 15 {
					want := 0
					for tick := from; tick < to; tick++ {
						if tick%tenants == tenant {
							want++
						}
					}
					if got := Between(from, to, tenant, tenants); got != want {
						t.Fatalf("Between(%d, %d, %d, %d): %d, not %d", from, to, tenant, tenants, got, want)
					}
				}
			}
		}
	}
	for _, c := range [][5]int{
		{0, api.MaxTick, 0, 1, api.MaxTick}, {0, api.MaxTick, 63, 64, 1<<24 - 1}, {0, api.MaxTick, 62, 64, 1 << 24}, {api.MaxTick, 0, 0, 1, 0},
		{-1, 7, 0, 3, 0}, {0, -7, 0, 3, 0}, {0, api.MaxTick + 1, 0, 3, 0}, {api.MaxTick + 1, api.MaxTick + 9, 0, 3, 0}, {0, 7, 3, 3, 0}, {0, 7, -1, 3, 0}, {0, 7, 0, 0, 0}, {0, 70, 0, 65, 0},
		{math.MinInt, 7, 0, 3, 0}, {0, math.MaxInt, 0, 3, 0}, {0, 7, math.MinInt, 3, 0}, {0, 7, 0, math.MinInt, 0}, {0, 7, 0, math.MaxInt, 0},
	} {
		if got := Between(c[0], c[1], c[2], c[3]); got != c[4] {
			t.Errorf("Between(%v): %d", c, got)
		}
	}
}

// P19.2
func TestWait(t *testing.T) {
	for _, c := range [][4]int{
		{1, 0, 3, 3}, {2, 3, 4, 20}, {0, 0, 5, 0}, {5, 5, 0, 0}, {1, 1, 1 << 20, 1 << 21}, {1 << 20, 1 << 20, 1 << 20, 1 << 41}, {1 << 20, 0, 1, 1 << 20}, {0, 1 << 20, 100, 100 << 20},
		{-1, 5, 3, 0}, {5, -1, 3, 0}, {5, 5, -1, 0}, {1<<20 + 1, 0, 1, 0}, {0, 1<<20 + 1, 1, 0}, {1, 1, 1<<20 + 1, 0}, {math.MaxInt, 1, 1, 0}, {1, math.MinInt, 1, 0}, {1, 1, math.MaxInt, 0},
	} {
		if got := Wait(c[0], c[1], c[2]); got != c[3] {
			t.Errorf("Wait(%d, %d, %d): %d", c[0], c[1], c[2], got)
		}
	}
}

// P19.2
func TestTurns(t *testing.T) {
	var got []int
	for tick := range Turns(4, 1, 3) {
		got = append(got, tick)
		if len(got) == 4 {
			break
		}
	}
	if !slices.Equal(got, []int{4, 7, 10, 13}) {
		t.Errorf("Turns(4, 1, 3): %v", got)
	}
	for _, c := range []struct {
		from, tenant, tenants int
		want                  []int
	}{
		{api.MaxTick - 5, 0, 3, []int{api.MaxTick - 3, api.MaxTick}}, {api.MaxTick, 63, 64, []int{api.MaxTick}}, {api.MaxTick - 2, 0, 1, []int{api.MaxTick - 2, api.MaxTick - 1, api.MaxTick}},
		{api.MaxTick, 62, 64, nil}, {api.MaxTick + 1, 0, 1, nil}, {-1, 0, 3, nil}, {0, 3, 3, nil}, {0, -1, 3, nil}, {0, 0, 0, nil}, {0, 0, 65, nil}, {math.MaxInt, 0, 3, nil}, {0, math.MinInt, math.MaxInt, nil},
	} {
		if got := slices.Collect(Turns(c.from, c.tenant, c.tenants)); !slices.Equal(got, c.want) {
			t.Errorf("Turns(%d, %d, %d): %v", c.from, c.tenant, c.tenants, got)
		}
	}
}
