package static

import (
	"math"
	"testing"

	"squint/api"
)

// known is RFC 7541, Appendix A.
var known = []struct {
	i           int
	name, value string
}{
	{1, ":authority", ""},
	{2, ":method", "GET"},
	{3, ":method", "POST"},
	{4, ":path", "/"},
	{5, ":path", "/index.html"},
	{6, ":scheme", "http"},
	{7, ":scheme", "https"},
	{8, ":status", "200"},
	{9, ":status", "204"},
	{10, ":status", "206"},
	{11, ":status", "304"},
	{12, ":status", "400"},
	{13, ":status", "404"},
	{14, ":status", "500"},
	{15, "accept-charset", ""},
	{16, "accept-encoding", "gzip, deflate"},
	{17, "accept-language", ""},
	{18, "accept-ranges", ""},
	{19, "accept", ""},
	{20, "access-control-allow-origin", ""},
	{21, "age", ""},
	{22, "allow", ""},
	{23, "authorization", ""},
	{24, "cache-control", ""},
	{25, "content-disposition", ""},
	{26, "content-encoding", ""},
	{27, "content-language", ""},
	{28, "content-length", ""},
	{29, "content-location", ""},
	{30, "content-range", ""},
	{31, "content-type", ""},
	{32, "cookie", ""},
	{33, "date", ""},
	{34, "etag", ""},
	{35, "expect", ""},
	{36, "expires", ""},
	{37, "from", ""},
	{38, "host", ""},
	{39, "if-match", ""},
	{40, "if-modified-since", ""},
	{41, "if-none-match", ""},
	{42, "if-range", ""},
	{43, "if-unmodified-since", ""},
	{44, "last-modified", ""},
	{45, "link", ""},
	{46, "location", ""},
	{47, "max-forwards", ""},
	{48, "proxy-authenticate", ""},
	{49, "proxy-authorization", ""},
	{50, "range", ""},
	{51, "referer", ""},
	{52, "refresh", ""},
	{53, "retry-after", ""},
	{54, "server", ""},
	{55, "set-cookie", ""},
	{56, "strict-transport-security", ""},
	{57, "transfer-encoding", ""},
	{58, "user-agent", ""},
	{59, "vary", ""},
	{60, "via", ""},
	{61, "www-authenticate", ""},
}

// P5.1
func TestGet(t *testing.T) {
	if len(known) != Len || Len != 61 {
		t.Fatalf("Len: %d", Len)
	}
	for _, k := range known {
		if f, e := Get(k.i); f != (Field{k.name, k.value}) || e != api.OK {
			t.Errorf("Get(%d): %v, %d", k.i, f, e)
		}
	}
	for _, i := range []int{0, -1, 62, math.MinInt, math.MaxInt} {
		if f, e := Get(i); f != (Field{}) || e != api.ErrIndex {
			t.Errorf("Get(%d): %v, %d", i, f, e)
		}
	}
}

// P5.1
func TestAll(t *testing.T) {
	all := All()
	for range 2 {
		n := 0
		for i, f := range all {
			if k := known[n]; i != k.i || f.Name != k.name || f.Value != k.value {
				t.Errorf("All at %d: %d, %v", n, i, f)
			}
			n++
		}
		if n != Len {
			t.Errorf("All told %d", n)
		}
	}
	asked := 0
	for i := range All() {
		asked = i
		if i == 7 {
			break
		}
	}
	if asked != 7 {
		t.Errorf("All went on to %d", asked)
	}
}

// P5.1
func TestSize(t *testing.T) {
	for _, c := range []struct {
		f    Field
		want int
	}{{Field{}, 32}, {Field{"a", ""}, 33}, {Field{"", "bc"}, 34}, {Field{"custom-key", "custom-value"}, 54}} {
		if got := c.f.Size(); got != c.want {
			t.Errorf("Size of %v: %d", c.f, got)
		}
	}
	if got := Sum(nil); got != 0 {
		t.Errorf("Sum of nothing: %d", got)
	}
	if got := Sum([]Field{{"a", ""}, {}, {"custom-key", "custom-value"}}); got != 33+32+54 {
		t.Errorf("Sum: %d", got)
	}
}

// P5.2
func TestFind(t *testing.T) {
	for _, k := range known {
		if i, exact := Find(Field{k.name, k.value}); i != k.i || !exact {
			t.Errorf("Find(%s, %s): %d, %v", k.name, k.value, i, exact)
		}
	}
	for _, c := range []struct {
		f     Field
		i     int
		exact bool
	}{
		{Field{":status", "418"}, 8, false}, {Field{":status", ""}, 8, false}, {Field{":method", "PUT"}, 2, false}, {Field{":path", "/x"}, 4, false},
		{Field{":scheme", "ftp"}, 6, false}, {Field{":authority", "x"}, 1, false}, {Field{"www-authenticate", "x"}, 61, false}, {Field{"accept-encoding", "gzip"}, 16, false},
		{Field{"", ""}, 0, false}, {Field{"x", "GET"}, 0, false}, {Field{"Cookie", ""}, 0, false}, {Field{"GET", ":method"}, 0, false},
	} {
		if i, exact := Find(c.f); i != c.i || exact != c.exact {
			t.Errorf("Find(%v): %d, %v", c.f, i, exact)
		}
	}
}

// P5.2
func TestName(t *testing.T) {
	least := map[string]int{}
	for _, k := range known {
		if _, ok := least[k.name]; !ok {
			least[k.name] = k.i
		}
	}
	for name, i := range least {
		if got := Name(name); got != i {
			t.Errorf("Name(%s): %d, not %d", name, got, i)
		}
	}
	for _, name := range []string{"", "x", "Cookie", "cookie ", "cooki"} {
		if got := Name(name); got != 0 {
			t.Errorf("Name(%q): %d", name, got)
		}
	}
}
