// Package octet is layer 1: numbers in bytes, the highest byte first.
package octet

const (
	// numberBytes is how many bytes a number has room for.
	numberBytes = 8
	// mostBytes is the greatest number of bytes that Big writes.
	mostBytes = 64
)

// In reads bytes from their beginning on.
type In struct {
	left []byte
}

// Big tells the last n bytes of x, the highest one first.
func Big(x uint64, n int) []byte {
	if n < 1 || n > mostBytes {
		return nil
	}
	out := make([]byte, n)
	for i := n - 1; i >= 0; i-- {
		out[i] = byte(x)
		x >>= 8
	}
	return out
}

// Num tells the number that at most eight bytes are.
func Num(b []byte) (uint64, bool) {
	if len(b) > numberBytes {
		return 0, false
	}
	var x uint64
	for _, c := range b {
		x = x<<8 | uint64(c)
	}
	return x, true
}

// New makes a reader over b; it has bytes of its own, so b stays the caller's.
func New(b []byte) *In {
	own := make([]byte, len(b))
	copy(own, b)
	return &In{left: own}
}

// Byte reads the next byte.
func (r *In) Byte() (int, bool) {
	b, ok := r.Take(1)
	if !ok {
		return 0, false
	}
	return int(b[0]), true
}

// Num reads the number of the next n bytes.
func (r *In) Num(n int) (uint64, bool) {
	if n > numberBytes {
		return 0, false
	}
	b, ok := r.Take(n)
	if !ok {
		return 0, false
	}
	return Num(b)
}

// Take reads the next n bytes. The bound behind them keeps what is appended to them out of what is read later.
func (r *In) Take(n int) ([]byte, bool) {
	if n < 0 || n > len(r.left) {
		return nil, false
	}
	b := r.left[:n:n]
	r.left = r.left[n:]
	return b, true
}

// Left tells how many bytes are left.
func (r *In) Left() int { return len(r.left) }

// Rest reads all bytes that are left.
func (r *In) Rest() []byte {
	b := r.left[:len(r.left):len(r.left)]
	r.left = nil
	return b
}
