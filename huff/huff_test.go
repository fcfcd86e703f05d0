package huff

import (
	"bytes"
	"encoding/hex"
	"math"
	"math/rand"
	"sync"
	"testing"

	"squint/api"
)

// P2.1: codes out of RFC 7541, Appendix B.
func TestCode(t *testing.T) {
	for _, c := range []struct {
		symbol int
		code   uint32
		bits   int
	}{
		{0, 0x1ff8, 13}, {1, 0x7fffd8, 23}, {2, 0xfffffe2, 28}, {9, 0xffffea, 24}, {10, 0x3ffffffc, 30}, {13, 0x3ffffffd, 30}, {22, 0x3ffffffe, 30},
		{' ', 0x14, 6}, {'!', 0x3f8, 10}, {'0', 0, 5}, {'1', 1, 5}, {'2', 2, 5}, {'3', 0x19, 6}, {'a', 3, 5}, {'t', 9, 5}, {'&', 0xf8, 8}, {'X', 0xfc, 8},
		{'<', 0x7ffc, 15}, {'\\', 0x7fff0, 19}, {'{', 0x7ffe, 15}, {127, 0xffffffc, 28}, {128, 0xfffe6, 20}, {199, 0x1ffffec, 25}, {206, 0xfffff1, 24},
		{249, 0xffffffe, 28}, {255, 0x3ffffee, 26}, {256, 0x3fffffff, 30},
	} {
		code, bits, e := Code(c.symbol)
		if code != c.code || bits != c.bits || e != api.OK {
			t.Errorf("Code(%d): %x, %d, %d", c.symbol, code, bits, e)
		}
	}
	for _, symbol := range []int{-1, 257, math.MinInt, math.MaxInt} {
		if code, bits, e := Code(symbol); code != 0 || bits != 0 || e != api.ErrRange {
			t.Errorf("Code(%d): %x, %d, %d", symbol, code, bits, e)
		}
	}
}

// P2.1: no code begins another one, and together they leave no bits over.
func TestCodesAreWhole(t *testing.T) {
	s := New()
	var spans [257][2]uint64
	var sum uint64
	for i := range 257 {
		code, bits, _ := s.Code(i)
		low := uint64(code) << (30 - bits)
		spans[i] = [2]uint64{low, low + 1<<(30-bits)}
		sum += 1 << (30 - bits)
	}
	if sum != 1<<30 {
		t.Errorf("the codes fill %d of 2^30", sum)
	}
	for i, a := range spans {
		for j, b := range spans {
			if i != j && a[0] < b[1] && b[0] < a[1] {
				t.Fatalf("the codes of %d and %d begin alike", i, j)
			}
		}
	}
}

// P2.2: examples of RFC 7541, Appendix C.
func TestKnownTexts(t *testing.T) {
	for _, c := range [][2]string{
		{"", ""}, {"a", "1f"}, {"0", "07"}, {"www.example.com", "f1e3c2e5f23a6ba0ab90f4ff"}, {"no-cache", "a8eb10649cbf"}, {"custom-key", "25a849e95ba97d7f"},
		{"custom-value", "25a849e95bb8e8b4bf"}, {"302", "6402"}, {"307", "640eff"}, {"private", "aec3771a4b"}, {"gzip", "9bd9ab"},
		{"Mon, 21 Oct 2013 20:13:21 GMT", "d07abe941054d444a8200595040b8166e082a62d1bff"}, {"https://www.example.com", "9d29ad171863c78f0b97c8e9ae82ae43d3"},
		{"foo=ASDJKHQKBZXOQWEOPIUAXQWEOIU; max-age=3600; version=1", "94e7821dd7f2e6c7b335dfdfcd5b3960d5af27087f3672c1ab270fb5291f9587316065c003ed4ee5b1063d5007"},
		{"\x00", "ffc7"}, {"\xff", "fffffbbf"}, {"\n", "fffffff3"},
	} {
		text, _ := hex.DecodeString(c[1])
		if got := Encode([]byte(c[0])); !bytes.Equal(got, text) {
			t.Errorf("Encode(%q): %x", c[0], got)
		}
		if got := Size([]byte(c[0])); got != len(text) {
			t.Errorf("Size(%q): %d", c[0], got)
		}
		if got, e := Decode(text); string(got) != c[0] || e != api.OK {
			t.Errorf("Decode(%s): %q, %d", c[1], got, e)
		}
	}
}

// P2.2: Decode of Encode, whatever the bytes.
func TestBackAgain(t *testing.T) {
	r := rand.New(rand.NewSource(1))
	s := New()
	for range 2000 {
		b := make([]byte, r.Intn(40))
		r.Read(b)
		if r.Intn(2) == 0 {
			for i := range b {
				b[i] &= 127
			}
		}
		text := s.Encode(b)
		if len(text) != Size(b) {
			t.Fatalf("Size(%x): %d, not %d", b, Size(b), len(text))
		}
		if got, e := s.Decode(text); !bytes.Equal(got, b) || e != api.OK {
			t.Fatalf("Decode(%x): %x, %d", text, got, e)
		}
	}
}

// P2.2: faults.
func TestDecodeRefuses(t *testing.T) {
	for _, c := range []struct {
		text string
		e    api.Errno
	}{
		{"1e", api.ErrPad},         // a, and a 0 at the end
		{"00", api.ErrPad},         // 0, and noughts
		{"ff", api.ErrPad},         // eight bits are too many
		{"1fff", api.ErrPad},       // a, and eleven
		{"fe", api.ErrPad},         // the beginning of a code, eight bits
		{"fffffffc", api.ErrEOS},   // EOS, and noughts
		{"ffffffff", api.ErrEOS},   // EOS, and ones
		{"1fffffffff", api.ErrEOS}, // a, EOS
		{"fffffff0", api.ErrPad},   // 0a, and noughts
		{"ffffff", api.ErrPad},     // the beginning of EOS alone
		{"ffffffffff", api.ErrEOS},
	} {
		text, _ := hex.DecodeString(c.text)
		if got, e := Decode(text); len(got) != 0 || e != c.e {
			t.Errorf("Decode(%s): %q, %d, not %d", c.text, got, e, c.e)
		}
	}
	for _, good := range []string{"07", "640eff", "f8", "fc"} {
		text, _ := hex.DecodeString(good)
		if _, e := Decode(text); e != api.OK {
			t.Errorf("Decode(%s): %d", good, e)
		}
	}
}

// slowDecode goes by the words of P2.2, bit by bit.
func slowDecode(known map[[2]int]int, b []byte) ([]byte, api.Errno) {
	var out []byte
	code, bits := 0, 0
	for i := range 8 * len(b) {
		code, bits = code<<1|int(b[i/8]>>(7-i%8)&1), bits+1
		if symbol, ok := known[[2]int{code, bits}]; ok {
			if symbol == 256 {
				return nil, api.ErrEOS
			}
			out = append(out, byte(symbol))
			code, bits = 0, 0
		}
	}
	if bits > 7 || code != 1<<bits-1 {
		return nil, api.ErrPad
	}
	return out, api.OK
}

// P2.2: what is decoded has no other text.
func TestAllShortTexts(t *testing.T) {
	s := New()
	known := map[[2]int]int{}
	for i := range 257 {
		code, bits, _ := s.Code(i)
		known[[2]int{int(code), bits}] = i
	}
	check := func(text []byte) {
		want, f := slowDecode(known, text)
		got, e := s.Decode(text)
		if !bytes.Equal(got, want) || e != f {
			t.Fatalf("Decode(%x): %x, %d, not %x, %d", text, got, e, want, f)
		}
		if e == api.OK && !bytes.Equal(s.Encode(got), text) {
			t.Fatalf("%x is another text of %q", text, got)
		}
	}
	for i := range 1 << 16 {
		check([]byte{byte(i >> 8)})
		check([]byte{byte(i >> 8), byte(i)})
		check([]byte{0xff, byte(i >> 8), byte(i)})
		check([]byte{0xff, 0xff, 0xff, byte(i >> 8), byte(i)})
	}
}

// P2.3
func TestMade(t *testing.T) {
	for name, use := range map[string]func(*Coder){
		"Code":       func(s *Coder) { s.Code(0) },
		"Code EOS":   func(s *Coder) { s.Code(256) },
		"Encode":     func(s *Coder) { s.Encode([]byte("a")) },
		"Encode nil": func(s *Coder) { s.Encode(nil) },
		"Decode":     func(s *Coder) { s.Decode([]byte{0x1f}) },
		"Decode bad": func(s *Coder) { s.Decode([]byte{0}) },
	} {
		s := New()
		if s.Made() != 0 {
			t.Errorf("new: %d", s.Made())
		}
		s.Code(-1)
		s.Code(257)
		if s.Made() != 0 {
			t.Errorf("behind a symbol that isn't right: %d", s.Made())
		}
		use(s)
		if s.Made() != 1 {
			t.Errorf("behind %s: %d", name, s.Made())
		}
		use(s)
		s.Code(5)
		s.Encode([]byte("b"))
		s.Decode(nil)
		if s.Made() != 1 {
			t.Errorf("behind more calls: %d", s.Made())
		}
	}
	if other := New(); other.Made() != 0 {
		t.Errorf("another coder: %d", other.Made())
	}
}

// P2.3: a coder tells what the calls tell.
func TestCoderIsTheCalls(t *testing.T) {
	s := New()
	for i := -2; i < 260; i++ {
		a, b, c := s.Code(i)
		x, y, z := Code(i)
		if a != x || b != y || c != z {
			t.Errorf("Code(%d): %x, %d, %d and %x, %d, %d", i, a, b, c, x, y, z)
		}
	}
	for _, text := range []string{"", "07", "00", "ffffffff", "f1e3c2e5f23a6ba0ab90f4ff"} {
		b, _ := hex.DecodeString(text)
		x, e := s.Decode(b)
		y, f := Decode(b)
		if !bytes.Equal(x, y) || e != f || !bytes.Equal(s.Encode(b), Encode(b)) {
			t.Errorf("%s: %x, %d and %x, %d", text, x, e, y, f)
		}
	}
}

// P2.3: many goroutines at one time.
func TestCoderOfMany(t *testing.T) {
	for range 20 {
		s := New()
		var wait sync.WaitGroup
		for i := range 16 {
			wait.Add(1)
			go func() {
				defer wait.Done()
				if i%2 == 0 {
					s.Code(-1)
				}
				if got := s.Encode([]byte("www.example.com")); hex.EncodeToString(got) != "f1e3c2e5f23a6ba0ab90f4ff" {
					t.Errorf("Encode: %x", got)
				}
				if got, _ := s.Decode([]byte{0x1f}); string(got) != "a" {
					t.Errorf("Decode: %q", got)
				}
				if s.Made() != 1 {
					t.Errorf("Made: %d", s.Made())
				}
			}()
		}
		wait.Wait()
		if s.Made() != 1 {
			t.Errorf("Made: %d", s.Made())
		}
	}
}
