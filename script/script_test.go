package script

import (
	"bytes"
	"math"
	"math/rand"
	"slices"
	"strings"
	"testing"

	"squint/api"
	"squint/endpoint"
	"squint/outbound"
	"squint/request"
	"squint/static"
)

var config = outbound.Config{Tenants: 2, Cell: 64, Bytes: 20000, Items: 50, Streams: 10}

func tick(n int) Line { return Line{Kind: 1, N: n} }

func feed(s string) Line { return Line{Kind: 2, Bytes: []byte(s)} }

func submit(n int, r request.Request) Line { return Line{Kind: 3, N: n, Request: r} }

func get(body string) request.Request {
	return request.Request{Method: "GET", Scheme: "http", Path: "/", Body: []byte(body)}
}

// P27.1
func TestHex(t *testing.T) {
	all := make([]byte, 256)
	for i := range all {
		all[i] = byte(i)
	}
	for _, c := range [][2]string{{"", "-"}, {"\x00", "00"}, {"GET", "474554"}, {"\xff\x0a\xb9", "ff0ab9"}} {
		if got := Hex([]byte(c[0])); got != c[1] {
			t.Errorf("Hex(%q): %q", c[0], got)
		}
		if got, ok := Unhex(c[1]); string(got) != c[0] || !ok {
			t.Errorf("Unhex(%q): %q, %v", c[1], got, ok)
		}
	}
	if got, ok := Unhex(Hex(all)); !bytes.Equal(got, all) || !ok {
		t.Errorf("Unhex of Hex: %q", got)
	}
	for _, s := range []string{"", "0", "000", "--", "-0", "0-", "FF", "0g", "g0", "/0", ":0", "`0", " 00", "00 ", "0x00", "00\n", "ä", "\x00\x00", "4G"} {
		if got, ok := Unhex(s); len(got) != 0 || ok {
			t.Errorf("Unhex(%q): %q, %v", s, got, ok)
		}
	}
}

// P27.1
func TestParse(t *testing.T) {
	text := "tick 3\nfeed 00ff\nfeed -\nsubmit 0 474554 68747470 2f - -\nsubmit 63 - - - 61 6263\ntick 1000\n"
	want := []Line{tick(3), feed("\x00\xff"), feed(""), submit(0, get("")), submit(63, request.Request{Authority: "a", Body: []byte("bc")}), tick(1000)}
	l, n, e := Parse(text)
	if !slices.EqualFunc(l, want, Line.Equal) || n != 0 || e != api.OK {
		t.Errorf("Parse: %v, %d, %d", l, n, e)
	}
	if got, e := Write(l); got != text || e != api.OK {
		t.Errorf("Write: %q, %d", got, e)
	}
	if l, n, e := Parse(""); len(l) != 0 || n != 0 || e != api.OK {
		t.Errorf("Parse of nothing: %v, %d, %d", l, n, e)
	}
	if s, e := Write(nil); s != "" || e != api.OK {
		t.Errorf("Write of nothing: %q, %d", s, e)
	}
}

// P27.1: lines that are none.
func TestParseRefuses(t *testing.T) {
	for _, s := range []string{
		"", " ", "tick", "tick ", "tick 0", "tick 1001", "tick 01", "tick +1", "tick -1", "tick -0", "tick 1 ", " tick 1", "tick  1", "tick 1 1", "Tick 1", "tick 1\r", "tick 1_0", "tick 0x1", "tick 1.0",
		"tick 99999999999999999999", "tick 18446744073709551617", "tick a", "tick -", "tick ١", "feed", "feed ", "feed 0", "feed 0G", "feed FF", "feed --", "feed 00 00", "feed  00", "feed - ", "feeds 00", "feed\t00",
		"submit", "submit 0", "submit 0 - - - -", "submit 0 - - - - - -", "submit 64 - - - - -", "submit 00 - - - - -", "submit -1 - - - - -", "submit +0 - - - - -", "submit a - - - - -",
		"submit 0 G - - - -", "submit 0 - 0 - - -", "submit 0 - - F - -", "submit 0 - - - x -", "submit 0 - - - - 000", "submit 0  - - - -", "submit  - - - - -", "x", "# tick", "tick 1;tick 1",
	} {
		if l, n, e := Parse(s + "\n"); len(l) != 0 || n != 0 || e != api.ErrLine {
			t.Errorf("Parse(%q): %v, %d, %d", s, l, n, e)
		}
		if l, n, e := Parse("tick 1\nfeed -\n" + s + "\ntick 1\nx\n"); len(l) != 0 || n != 2 || e != api.ErrLine {
			t.Errorf("Parse(%q) at 2: %v, %d, %d", s, l, n, e)
		}
	}
	for s, want := range map[string]int{"tick 1": 0, "tick 1\ntick 2": 1, "\n": 0, "tick 1\n\n": 1, "tick 1\n ": 1, "feed -": 0} {
		if l, n, e := Parse(s); len(l) != 0 || n != want || e != api.ErrLine {
			t.Errorf("Parse(%q): %v, %d, %d", s, l, n, e)
		}
	}
}

// P27.1: a line has at most 2^16 bytes.
func TestManyBytes(t *testing.T) {
	most := strings.Repeat("00", 1<<16)
	half := strings.Repeat("00", 1<<15)
	for s, ok := range map[string]bool{
		"feed " + most: true, "feed " + most + "00": false,
		"submit 0 - - - - " + most: true, "submit 0 00 - - - " + most: false, "submit 0 - - " + half + " - " + half: true, "submit 0 - " + half + " 00 - " + half: false,
	} {
		l, _, e := Parse(s + "\n")
		if (e == api.OK) != ok || len(l) == 1 != ok {
			t.Errorf("Parse(%q..): %d", s[:20], e)
		}
	}
	if _, e := Write([]Line{feed(string(make([]byte, 1<<16)))}); e != api.OK {
		t.Errorf("Write: %d", e)
	}
	if _, e := Write([]Line{feed(string(make([]byte, 1<<16+1)))}); e != api.ErrForm {
		t.Errorf("Write of too many: %d", e)
	}
}

// wrongLines are lines that aren't right.
func wrongLines() []Line {
	some := get("")
	fields := request.Request{Fields: []static.Field{{}}}
	return []Line{
		{}, {Kind: 4}, {Kind: -1}, tick(0), tick(-1), tick(1001), tick(math.MaxInt), {Kind: 1, N: 1, Bytes: []byte("a")}, {Kind: 1, N: 1, Request: some}, {Kind: 1, N: 1, Request: fields},
		{Kind: 2, N: 1}, {Kind: 2, N: -1}, {Kind: 2, Request: some}, {Kind: 2, Request: fields}, {Kind: 2, Request: request.Request{Body: []byte("a")}}, {Kind: 2, Bytes: make([]byte, 1<<16+1)},
		submit(-1, some), submit(64, some), submit(0, fields), {Kind: 3, Request: some, Bytes: []byte("a")}, submit(0, get(strings.Repeat("b", 1<<16-7))), submit(math.MinInt, some),
		{Kind: math.MaxInt, N: 1}, {Kind: 1, N: 1, Request: request.Request{Scheme: "x"}}, {Kind: 2, Request: request.Request{Authority: "x"}}, {Kind: 2, Request: request.Request{Path: "x"}},
	}
}

// P27.1
func TestWrite(t *testing.T) {
	for i, x := range wrongLines() {
		if s, e := Write([]Line{tick(1), x, tick(1)}); s != "" || e != api.ErrForm {
			t.Errorf("Write of line %d: %q, %d", i, s, e)
		}
	}
	if s, e := Write([]Line{submit(0, get(strings.Repeat("b", 1<<16-8)))}); len(s) < 1<<17 || e != api.OK {
		t.Errorf("Write of a long one: %d", e)
	}
	if s, e := Write([]Line{{Kind: 1, N: 1, Bytes: []byte{}, Request: request.Request{Fields: []static.Field{}, Body: []byte{}}}}); s != "tick 1\n" || e != api.OK {
		t.Errorf("Write of an empty one: %q, %d", s, e)
	}
}

// P27.1: Parse of Write is l.
func TestBackAgain(t *testing.T) {
	r := rand.New(rand.NewSource(1))
	text := func() string {
		b := make([]byte, r.Intn(9))
		r.Read(b)
		return string(b)
	}
	for range 300 {
		var l []Line
		for range r.Intn(6) {
			l = append(l, []Line{tick(1 + r.Intn(1000)), feed(text()), submit(r.Intn(64), request.Request{Method: text(), Scheme: text(), Path: text(), Authority: text(), Body: []byte(text())})}[r.Intn(3)])
		}
		s, e := Write(l)
		got, n, f := Parse(s)
		if !slices.EqualFunc(got, l, Line.Equal) || n != 0 || e != api.OK || f != api.OK {
			t.Fatalf("%q: %v, %d, %d, %d", s, got, n, e, f)
		}
	}
}

// P27.1
func TestEqual(t *testing.T) {
	whole := func() Line {
		return Line{1, 2, request.Request{Method: "a", Scheme: "b", Path: "c", Authority: "d", Fields: []static.Field{{Name: "e", Value: "f"}}, Body: []byte("g")}, []byte("h")}
	}
	if !whole().Equal(whole()) || !(Line{}).Equal(Line{Bytes: []byte{}, Request: request.Request{Fields: []static.Field{}, Body: []byte{}}}) {
		t.Errorf("a line is another one than itself")
	}
	for i, change := range []func(x *Line){
		func(x *Line) { x.Kind = 0 }, func(x *Line) { x.N = 0 }, func(x *Line) { x.Bytes = nil }, func(x *Line) { x.Request.Method = "" }, func(x *Line) { x.Request.Scheme = "" },
		func(x *Line) { x.Request.Path = "" }, func(x *Line) { x.Request.Authority = "" }, func(x *Line) { x.Request.Body = nil }, func(x *Line) { x.Request.Fields = nil },
		func(x *Line) { x.Request.Fields[0].Value = "" }, func(x *Line) { x.Request.Method, x.Request.Scheme = "b", "a" },
	} {
		x := whole()
		change(&x)
		if x.Equal(whole()) || whole().Equal(x) {
			t.Errorf("change %d isn't seen", i)
		}
	}
}

// P27.2
func TestTicks(t *testing.T) {
	if n := Ticks(nil); n != 0 {
		t.Errorf("Ticks of nothing: %d", n)
	}
	l := append(wrongLines(), tick(5), feed("x"), submit(7, get("")), tick(1000), tick(1))
	if n := Ticks(l); n != 1006 {
		t.Errorf("Ticks: %d", n)
	}
}

// P27.2: a day.
func TestRun(t *testing.T) {
	text := "submit 1 474554 68747470 2f - 6162\n" + // GET http / with the body ab
		"submit 1 676574 68747470 2f - -\n" + // get is no method
		"submit 2 474554 68747470 2f - -\n" + // there is no tenant 2
		"tick 4\n" +
		"feed 000000040000000000\n" + // Settings
		"feed 0000010105\n" +
		"feed 0000000389\n" + // Headers with the status 204, and the end
		"tick 2\n"
	l, _, e := Parse(text)
	if e != api.OK {
		t.Fatalf("Parse: %d", e)
	}
	r, e := Run(config, l)
	if e != api.OK || r.Refused != 2 || len(r.Outs) != 6 {
		t.Fatalf("Run: %v, %d", r, e)
	}
	var kinds []int
	for i, o := range r.Outs {
		if o.Tick != i {
			t.Errorf("tick %d: %v", i, o)
		}
		kinds = append(kinds, o.Did.Kind)
	}
	if !slices.Equal(kinds, []int{0, outbound.Opened, 0, outbound.Ended, 0, 0}) {
		t.Errorf("done: %v", kinds)
	}
	want := []endpoint.Delivery{{Tick: 4, Tenant: 1, Kind: endpoint.Headed, Status: 204}, {Tick: 4, Tenant: 1, Kind: endpoint.Done}}
	if got := r.Endpoint.Deliveries(1); !slices.EqualFunc(got, want, endpoint.Delivery.Equal) {
		t.Errorf("delivered: %v", got)
	}
	if r.Endpoint.Now() != 6 || r.Endpoint.Taken(1) != 1 || r.Endpoint.Taken(0) != 0 {
		t.Errorf("now %d, taken %d", r.Endpoint.Now(), r.Endpoint.Taken(1))
	}
}

// P27.2: what Feed tells is passed over.
func TestRunPassesFaultsOver(t *testing.T) {
	r, e := Run(config, []Line{submit(0, get("")), feed("nonsense, and more"), feed("x"), tick(2), submit(0, get(""))})
	if code, dead := r.Endpoint.Dead(); e != api.OK || !dead || code != api.FrameSize || r.Refused != 1 || len(r.Outs) != 2 || len(r.Outs[0].Slot) != 0 {
		t.Errorf("%d, %v, %d", code, dead, e)
	}
}

// P27.2
func TestRunRefuses(t *testing.T) {
	bad := outbound.Config{}
	many := make([]Line, api.MaxSteps+1)
	for i := range many {
		many[i] = feed("")
	}
	long := slices.Repeat([]Line{tick(1000)}, 10)
	for i, c := range []struct {
		c outbound.Config
		l []Line
		e api.Errno
	}{
		{config, nil, api.OK}, {bad, nil, api.ErrRange}, {config, many[1:], api.OK}, {config, many, api.ErrMany}, {bad, many, api.ErrMany}, {bad, many[1:], api.ErrRange},
		{config, long, api.OK}, {config, append(slices.Clone(long), tick(1)), api.ErrMany}, {config, append(slices.Clone(many), tick(0)), api.ErrForm}, {bad, []Line{{}}, api.ErrForm},
	} {
		r, e := Run(c.c, c.l)
		if e != c.e || (e == api.OK) != (r.Endpoint != nil) || e != api.OK && (len(r.Outs) != 0 || r.Refused != 0) {
			t.Errorf("Run %d: %v, %d", i, r, e)
		}
		if e == api.OK && len(r.Outs) != Ticks(c.l) {
			t.Errorf("Run %d: %d outs", i, len(r.Outs))
		}
	}
	for i, x := range wrongLines() {
		if r, e := Run(config, []Line{tick(1), x}); r.Endpoint != nil || e != api.ErrForm {
			t.Errorf("Run of line %d: %d", i, e)
		}
	}
}

// FuzzParse: whatever comes, a call ends; what is a text is the text of its lines.
func FuzzParse(f *testing.F) {
	f.Add("tick 3\nfeed 00ff\nsubmit 0 474554 68747470 2f - -\n")
	f.Fuzz(func(t *testing.T, s string) {
		l, n, e := Parse(s)
		if e != api.OK {
			if len(l) != 0 || n > strings.Count(s, "\n") {
				t.Fatalf("%q: %v, %d", s, l, n)
			}
			return
		}
		if got, e := Write(l); got != s || e != api.OK {
			t.Fatalf("%q: %q, %d", s, got, e)
		}
	})
}
