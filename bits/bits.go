// Package bits packs numbers into bit fields and reads them back: see doc/01-bits.md.
package bits

import "mezzotint/api"

// Write concatenates the fields, the highest bit first, and fills the last byte with ones.
func Write(l []api.Field) ([]byte, api.Errno) {
	if len(l) > api.MaxFields {
		return nil, api.ErrLarge
	}
	var out []byte
	// Fewer than eight bits are pending between fields, so that pending bits and a field never overflow an int.
	pending, count := 0, 0
	for _, f := range l {
		if !fits(f) {
			return nil, api.ErrArg
		}
		pending = pending<<f.Width | f.Value
		count += f.Width
		for count >= 8 {
			count -= 8
			out = append(out, byte(pending>>count))
			pending &= 1<<count - 1
		}
	}
	if count > 0 {
		free := 8 - count
		out = append(out, byte((pending+1)<<free-1))
	}
	return out, api.OK
}

// Read returns the numbers of the given widths from the beginning of b, and how many bits they occupy.
func Read(b []byte, widths []int) ([]int, int, api.Errno) {
	if len(widths) > api.MaxFields {
		return nil, 0, api.ErrLarge
	}
	out := make([]int, 0, len(widths))
	at := 0
	for _, w := range widths {
		if !isWidth(w) {
			return nil, 0, api.ErrArg
		}
		if w > 8*len(b)-at {
			return nil, 0, api.ErrShort
		}
		out = append(out, number(b, at, w))
		at += w
	}
	return out, at, api.OK
}

func isWidth(w int) bool {
	return w >= 0 && w <= api.MaxBits
}

// fits tests the width first, because a shift by a negative width would panic.
func fits(f api.Field) bool {
	return isWidth(f.Width) && f.Value >= 0 && f.Value < 1<<f.Width
}

// number returns the bits at, .., at+width-1 of b, which must exist.
func number(b []byte, at, width int) int {
	n := 0
	for i := at; i < at+width; i++ {
		bit := int(b[i/8]>>(7-i%8)) & 1
		n = n<<1 | bit
	}
	return n
}
