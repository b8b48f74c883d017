package size

import (
	"math"
	"testing"

	"mezzotint/api"
)

// powers are 2^0 to 2^12, written out.
var powers = []int{1, 2, 4, 8, 16, 32, 64, 128, 256, 512, 1024, 2048, 4096}

// wrongNumbers have no size.
var wrongNumbers = []int{
	-4096, 4096, -4097, 4097, -8191, 8191, 1 << 16, -1 << 16, 1 << 32, -1 << 32, 1<<32 + 5, 1<<32 - 5, -1<<32 - 5,
	math.MinInt32, math.MaxInt32, math.MinInt, math.MinInt + 1, math.MinInt + 4095, math.MaxInt, math.MaxInt - 1, math.MaxInt - 4095,
}

// wrongWidths are no sizes.
var wrongWidths = []int{
	-1, -2, -12, -13, -63, -64, 13, 14, 16, 24, 31, 32, 33, 62, 63, 64, 65, 128, 256, 1<<32 + 3, -1<<32 + 3,
	math.MinInt32, math.MaxInt32, math.MinInt, math.MinInt + 1, math.MinInt + 3, math.MaxInt, math.MaxInt - 1,
}

// sizeOf counts how often the absolute value can be halved before it is 0.
func sizeOf(n int) int {
	if n < 0 {
		n = -n
	}
	count := 0
	for ; n > 0; n /= 2 {
		count++
	}
	return count
}

// valueOf returns the value bits of n as the document defines them.
func valueOf(n int) int {
	if n > 0 {
		return n
	}
	return n + powers[sizeOf(n)] - 1
}

// expectBits fails unless Of and Bits return the width and value, and Back returns the number for these.
func expectBits(t *testing.T, n, width, value int) {
	t.Helper()
	if w, e := Of(n); w != width || e != api.OK {
		t.Errorf("Of(%d): got %d and the error %d, want %d", n, w, e, width)
	}
	if w, v, e := Bits(n); w != width || v != value || e != api.OK {
		t.Errorf("Bits(%d): got %d, %d and the error %d, want %d, %d", n, w, v, e, width, value)
	}
	expectBack(t, width, value, n)
}

// expectBack fails unless Back returns the number.
func expectBack(t *testing.T, width, value, want int) {
	t.Helper()
	if n, e := Back(width, value); n != want || e != api.OK {
		t.Errorf("Back(%d, %d): got %d and the error %d, want %d", width, value, n, e, want)
	}
}

// expectBackError fails unless Back returns 0 and ErrArg.
func expectBackError(t *testing.T, width, value int) {
	t.Helper()
	if n, e := Back(width, value); n != 0 || e != api.ErrArg {
		t.Errorf("Back(%d, %d): got %d and the error %d, want 0 and ErrArg", width, value, n, e)
	}
}

func TestBitsExample(t *testing.T) {
	expectBits(t, -5, 3, 2)
}

func TestBitsWrittenOut(t *testing.T) {
	for _, c := range []struct{ n, width, value int }{
		{0, 0, 0},
		{1, 1, 1}, {-1, 1, 0},
		{2, 2, 2}, {3, 2, 3}, {-2, 2, 1}, {-3, 2, 0},
		{4, 3, 4}, {5, 3, 5}, {6, 3, 6}, {7, 3, 7}, {-4, 3, 3}, {-6, 3, 1}, {-7, 3, 0},
		{8, 4, 8}, {15, 4, 15}, {-8, 4, 7}, {-15, 4, 0},
		{100, 7, 100}, {-100, 7, 27},
		{127, 7, 127}, {128, 8, 128}, {255, 8, 255}, {256, 9, 256}, {-127, 7, 0}, {-128, 8, 127}, {-255, 8, 0}, {-256, 9, 255},
		{1000, 10, 1000}, {-1000, 10, 23},
		{2047, 11, 2047}, {2048, 12, 2048}, {4094, 12, 4094}, {4095, 12, 4095},
		{-2047, 11, 0}, {-2048, 12, 2047}, {-4094, 12, 1}, {-4095, 12, 0},
	} {
		expectBits(t, c.n, c.width, c.value)
	}
}

// Both sides of each power of two, of both signs.
func TestBitsAroundPowers(t *testing.T) {
	for k, power := range powers {
		expectBits(t, power-1, k, power-1)
		expectBits(t, 1-power, k, 0)
		if k < 12 {
			expectBits(t, power, k+1, power)
			expectBits(t, -power, k+1, power-1)
		}
	}
}

func TestBitsAllNumbers(t *testing.T) {
	for n := -4095; n <= 4095; n++ {
		expectBits(t, n, sizeOf(n), valueOf(n))
	}
}

// No two numbers have the same size and value bits, and these are all that there are.
func TestBitsAllDifferent(t *testing.T) {
	seen := map[[2]int]int{}
	for n := -4095; n <= 4095; n++ {
		width, value, e := Bits(n)
		if e != api.OK || width < 0 || width > 12 || value < 0 || value >= powers[width] {
			t.Fatalf("Bits(%d): got %d, %d and the error %d", n, width, value, e)
		}
		if other, found := seen[[2]int{width, value}]; found {
			t.Errorf("%d and %d have the same size %d and bits %d", other, n, width, value)
		}
		seen[[2]int{width, value}] = n
	}
	if len(seen) != 8191 {
		t.Errorf("got %d pairs, want 8191", len(seen))
	}
}

func TestNumberBounds(t *testing.T) {
	expectBits(t, 4095, 12, 4095)
	expectBits(t, -4095, 12, 0)
	for _, n := range wrongNumbers {
		if w, e := Of(n); w != 0 || e != api.ErrArg {
			t.Errorf("Of(%d): got %d and the error %d, want 0 and ErrArg", n, w, e)
		}
		if w, v, e := Bits(n); w != 0 || v != 0 || e != api.ErrArg {
			t.Errorf("Bits(%d): got %d, %d and the error %d, want zeros and ErrArg", n, w, v, e)
		}
	}
}

// All widths and values, against the only number for which Bits returns them.
func TestBackAllPairs(t *testing.T) {
	for width := range 13 {
		for value := range powers[width] {
			n, e := Back(width, value)
			if e != api.OK || sizeOf(n) != width || valueOf(n) != value {
				t.Errorf("Back(%d, %d): got %d and the error %d", width, value, n, e)
			}
			if w, v, e := Bits(n); w != width || v != value || e != api.OK {
				t.Errorf("Back(%d, %d) is %d, but its Bits are %d, %d and the error %d", width, value, n, w, v, e)
			}
		}
	}
}

func TestBackWidthZero(t *testing.T) {
	expectBack(t, 0, 0, 0)
	for _, value := range []int{1, -1, 2, 4095, math.MinInt, math.MaxInt} {
		expectBackError(t, 0, value)
	}
}

// The ends of the negative and of the positive numbers of each size.
func TestBackEnds(t *testing.T) {
	for width := 1; width <= 12; width++ {
		least, most := powers[width-1], powers[width]-1
		expectBack(t, width, 0, -most)
		expectBack(t, width, least-1, -least)
		expectBack(t, width, least, least)
		expectBack(t, width, most, most)
	}
}

func TestBackWidthBounds(t *testing.T) {
	for _, width := range wrongWidths {
		for _, value := range []int{0, 1, 2, 4095, 4096, -1, math.MinInt, math.MaxInt} {
			expectBackError(t, width, value)
		}
	}
}

func TestBackValueBounds(t *testing.T) {
	for width := range 13 {
		for _, value := range []int{
			-1, -2, -powers[width], powers[width], powers[width] + 1, 4096, 8191, 1 << 32, -1 << 32,
			math.MinInt32, math.MaxInt32, 1 << 62, -1 << 62, math.MinInt, math.MinInt + 1, math.MaxInt, math.MaxInt - 1,
		} {
			expectBackError(t, width, value)
		}
	}
}

// P2: a failed call leaves nothing behind that a later call could see.
func TestNoStateAfterErrors(t *testing.T) {
	for _, wrong := range wrongNumbers {
		Of(wrong)
		Bits(wrong)
		Back(wrong, 2)
		Back(3, wrong)
		expectBits(t, -5, 3, 2)
		expectBits(t, 0, 0, 0)
	}
}

// P1: no combination of extreme numbers makes a function panic.
func TestNoPanic(t *testing.T) {
	var extremes []int
	for k := range 64 {
		extremes = append(extremes, 1<<k-1, 1<<k, 1<<k+1, -1<<k-1, -1<<k, -1<<k+1)
	}
	for _, x := range extremes {
		Of(x)
		Bits(x)
		for _, y := range extremes {
			Back(x, y)
		}
	}
}
