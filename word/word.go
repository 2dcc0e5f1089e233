// Package word is layer 1: numbers as bytes, and bytes as numbers.
package word

// number is what has bytes here.
type number interface{ uint32 | uint64 }

const (
	size32 = 4 // bytes of a uint32
	size64 = 8 // bytes of a uint64

	digits = "0123456789abcdef"
)

// Put32 answers the four bytes of n, the highest first.
func Put32(n uint32) string { return put(n, size32) }

// Put64 answers the eight bytes of n, the highest first.
func Put64(n uint64) string { return put(n, size64) }

// Get32 answers the number whose four bytes stand in s from at on; 0, false, if they are not all there.
func Get32(s string, at int) (uint32, bool) { return get[uint32](s, at, size32) }

// Get64 answers the number whose eight bytes stand in s from at on; 0, false, if they are not all there.
func Get64(s string, at int) (uint64, bool) { return get[uint64](s, at, size64) }

func put[N number](n N, size int) string {
	b := make([]byte, size)
	for i := range size {
		b[size-1-i] = byte(n >> (8 * i))
	}
	return string(b)
}

func get[N number](s string, at, size int) (N, bool) {
	// at + size might be beyond the greatest int; what is left of s is not.
	if at < 0 || at > len(s)-size {
		return 0, false
	}
	var n N
	for i := range size {
		n = n<<8 | N(s[at+i])
	}
	return n, true
}

// Turn answers n turned by places to the right, or, below 0, to the left.
func Turn(n uint32, by int) uint32 {
	// 32 divides 2^64, so a place below 0 is, without its sign, the right one modulo 32.
	right := uint(by) % 32
	return n>>right | n<<(32-right)
}

// Xor answers byte by byte either or; nothing, false, unless both are of one length.
func Xor(a, b string) (string, bool) {
	if len(a) != len(b) {
		return "", false
	}
	x := make([]byte, len(a))
	for i := range len(a) {
		x[i] = a[i] ^ b[i]
	}
	return string(x), true
}

// Equal answers whether both are the same.
func Equal(a, b string) bool {
	if len(a) != len(b) {
		return false
	}
	// All bytes are looked at, so that the time it takes does not tell where a guess is wrong.
	var unlike byte
	for i := range len(a) {
		unlike |= a[i] ^ b[i]
	}
	return unlike == 0
}

// Hex answers the hex text of s.
func Hex(s string) string {
	b := make([]byte, 0, 2*len(s))
	for i := range len(s) {
		b = append(b, digits[s[i]>>4], digits[s[i]&15])
	}
	return string(b)
}

// Unhex answers the bytes whose hex text s is; nothing, false, if it is none.
func Unhex(s string) (string, bool) {
	if len(s)%2 != 0 {
		return "", false
	}
	b := make([]byte, len(s)/2)
	for i := range b {
		high, isHigh := digit(s[2*i])
		low, isLow := digit(s[2*i+1])
		if !isHigh || !isLow {
			return "", false
		}
		b[i] = high<<4 | low
	}
	return string(b), true
}

// digit answers the four bits of a digit of a hex text, and whether it is one.
func digit(c byte) (byte, bool) {
	switch {
	case '0' <= c && c <= '9':
		return c - '0', true
	case 'a' <= c && c <= 'f':
		return c - 'a' + 10, true
	}
	return 0, false
}
