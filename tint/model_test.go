package tint

import (
	"math"
	"testing"

	"mezzotint/api"
)

// lattice has numbers from 0 to 255 in steps of 15, and the neighbors of both ends and of the middle.
var lattice = []int{
	0, 15, 30, 45, 60, 75, 90, 105, 120, 135, 150, 165, 180, 195, 210, 225, 240, 255,
	1, 2, 126, 127, 128, 129, 130, 253, 254,
}

// wrongSamples are no samples. Some are samples modulo a power of two.
var wrongSamples = []int{
	-1, 256, -2, 257, -127, -128, -129, -255, -256, -257, 383, 384, 511, 512, 1 << 16, 1<<16 + 128, -1 << 16,
	1 << 31, -1 << 31, 1 << 32, -1 << 32, 1<<32 + 128, 1<<32 - 1, 1 << 48, 1<<48 + 255, -1 << 48, 1 << 62, -1 << 62,
	math.MinInt32, math.MaxInt32, math.MinInt, math.MinInt + 1, math.MinInt + 128, math.MinInt + 255,
	math.MaxInt, math.MaxInt - 1, math.MaxInt - 128, math.MaxInt - 255,
}

// converter is To or From.
type converter func(int, int, int) (int, int, int, api.Errno)

// nearest returns the sample whose product with 65536 is nearest to the sum: of two, the one with the larger absolute value.
// Below 0 and above 255 this is what the rounded number is clamped to.
func nearest(sum int) int {
	best := 0
	for n := range 256 {
		if distance(n, sum) <= distance(best, sum) {
			best = n
		}
	}
	return best
}

func distance(n, sum int) int {
	d := 65536*n - sum
	if d < 0 {
		return -d
	}
	return d
}

// shifted returns the same as nearest, in less time: the sums that are a half above an integer below 0 are clamped anyway.
func shifted(sum int) int {
	switch n := (sum + 32768) >> 16; {
	case n < 0:
		return 0
	case n > 255:
		return 255
	default:
		return n
	}
}

// model returns the three sums of the document.
type model func(a, b, c int) (int, int, int)

func sumsTo(r, g, b int) (int, int, int) {
	return 19595*r + 38470*g + 7471*b, 8388608 + 32768*b - 11059*r - 21709*g, 8388608 + 32768*r - 27439*g - 5329*b
}

func sumsFrom(y, u, v int) (int, int, int) {
	return 65536*y + 91881*(v-128), 65536*y - 22554*(u-128) - 46802*(v-128), 65536*y + 116130*(u-128)
}

// expect fails unless the three samples are converted to the others.
func expect(t *testing.T, f converter, from, to [3]int) {
	t.Helper()
	a, b, c, e := f(from[0], from[1], from[2])
	if [3]int{a, b, c} != to || e != api.OK {
		t.Errorf("%v: got %d, %d, %d and the error %d, want %v", from, a, b, c, e, to)
	}
}

// expectLattice compares all colors of the lattice with the model.
func expectLattice(t *testing.T, f converter, sums model) {
	t.Helper()
	for _, a := range lattice {
		for _, b := range lattice {
			for _, c := range lattice {
				x, y, z := sums(a, b, c)
				expect(t, f, [3]int{a, b, c}, [3]int{nearest(x), nearest(y), nearest(z)})
			}
		}
	}
}

// expectAll compares all colors with the model.
func expectAll(t *testing.T, f converter, sums model) {
	t.Helper()
	for k := range 1 << 24 {
		a, b, c := k>>16, k>>8&255, k&255
		x, y, z := sums(a, b, c)
		i, j, k, e := f(a, b, c)
		if i != shifted(x) || j != shifted(y) || k != shifted(z) || e != api.OK {
			t.Fatalf("%d, %d, %d: got %d, %d, %d and the error %d, want %d, %d, %d", a, b, c, i, j, k, e, shifted(x), shifted(y), shifted(z))
		}
	}
}

// expectErrors fails unless wrong samples are refused, by themselves and together.
func expectErrors(t *testing.T, f converter) {
	t.Helper()
	for _, n := range wrongSamples {
		for _, right := range []int{0, 1, 100, 128, 255} {
			expectError(t, f, n, right, right)
			expectError(t, f, right, n, right)
			expectError(t, f, right, right, n)
			for _, m := range wrongSamples {
				expectError(t, f, n, m, right)
				expectError(t, f, n, right, m)
				expectError(t, f, right, n, m)
			}
		}
		for _, m := range wrongSamples {
			for _, k := range wrongSamples {
				expectError(t, f, n, m, k)
			}
		}
	}
}

func expectError(t *testing.T, f converter, a, b, c int) {
	t.Helper()
	x, y, z, e := f(a, b, c)
	if x != 0 || y != 0 || z != 0 || e != api.ErrArg {
		t.Errorf("%d, %d, %d: got %d, %d, %d and the error %d, want zeros and ErrArg", a, b, c, x, y, z, e)
	}
}

func TestModels(t *testing.T) {
	for sum := -1 << 18; sum <= 1<<18; sum++ {
		if nearest(sum) != shifted(sum) {
			t.Fatalf("the models of %d differ: %d and %d", sum, nearest(sum), shifted(sum))
		}
	}
}
