// Package fix is layer 1: see shared/doc/01-fix.md.
package fix

const (
	far       = 1 << 40 // a small number is at most so far from 0
	farShift  = 40
	maskSize  = 16
	maskBound = 1 << maskSize
)

// Clamp is a number within bounds.
func Clamp(n, lo, hi int) int {
	if !small(n) || !small(lo) || !small(hi) {
		return 0
	}
	return within(n, lo, hi)
}

// Floor is a number divided.
func Floor(n, by int) int {
	if !small(n) || !small(by) || by < 1 {
		return 0
	}
	q := n / by
	// The language divides towards 0, which is one too high for what is below 0 and leaves a rest.
	if n%by < 0 {
		q--
	}
	return q
}

// Shift is a number divided by a power of two.
func Shift(n, by int) int {
	if !small(n) || by < 0 || by > farShift {
		return 0
	}
	return n >> by
}

// Apart is how far two are apart.
func Apart(a, b int) int {
	if !small(a) || !small(b) {
		return 0
	}
	if a < b {
		return b - a
	}
	return a - b
}

// Near is a number moved towards another one.
func Near(n, to, by int) int {
	if !small(n) || !small(to) || !small(by) {
		return 0
	}
	if by < 0 {
		return n
	}
	// Not Clamp: n-by and n+by may be beyond the small numbers.
	return within(to, n-by, n+by)
}

// Bits is the mask of a list.
func Bits(l []bool) int {
	if len(l) > maskSize {
		return 0
	}
	mask := 0
	for i := range len(l) {
		if l[i] {
			mask |= 1 << i
		}
	}
	return mask
}

// Has tells whether a bit is 1.
func Has(mask, i int) bool {
	if mask < 0 || mask >= maskBound || i < 0 || i >= maskSize {
		return false
	}
	return mask>>i&1 == 1
}

// Count is how many bits are 1.
func Count(mask int) int {
	n := 0
	for i := range maskSize {
		// Has is false at every bit of what is no mask, so the count of it is 0.
		if Has(mask, i) {
			n++
		}
	}
	return n
}

func small(n int) bool { return -far <= n && n <= far }

// within answers lo where lo is above hi.
func within(n, lo, hi int) int {
	switch {
	case lo > hi || n < lo:
		return lo
	case n > hi:
		return hi
	}
	return n
}
