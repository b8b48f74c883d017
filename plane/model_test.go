package plane

import (
	"math"
	"slices"
	"testing"

	"mezzotint/api"
	"mezzotint/samples"
)

var (
	someSides    = []int{1, 2, 3, 4, 5, 6, 7, 8, 9, 10, 11, 12, 13, 14, 15, 16, 17, 63, 64}
	extremes     = []int{1 << 31, -1 << 31, 1 << 32, -1 << 32, 1<<32 + 1, 1<<32 + 8, 1 << 61, 1 << 62, -1 << 62, math.MinInt32, math.MaxInt32, math.MinInt, math.MinInt + 1, math.MinInt + 7, math.MinInt + 128, math.MaxInt - 128, math.MaxInt - 7, math.MaxInt - 1, math.MaxInt}
	wrongSides   = append([]int{0, 65, -1, -2, -8, -64, 66, 72, 128, 256, 257}, extremes...)
	wrongSamples = append([]int{-1, 256, -2, 257, -128, -255, -256, 383, 384, 512}, extremes...)
	wrongNumbers = append([]int{-40001, 40001, -40002, 40002, -65536, 65536}, extremes...)
)

// place is where a sample is in a plane. It may be beyond the edge.
type place struct{ row, column int }

// blockPlaces returns the places of the 64 numbers of each block that covers a plane.
func blockPlaces(wide, high int) [][64]place {
	var out [][64]place
	for top := 0; top < high; top += 8 {
		for left := 0; left < wide; left += 8 {
			var b [64]place
			for i := range b {
				b[i] = place{top + i/8, left + i%8}
			}
			out = append(out, b)
		}
	}
	return out
}

// nearest returns the index of the sample nearest to a place: of all samples, the one with the least distance.
func nearest(p place, wide, high int) int {
	at, least := 0, math.MaxInt
	for i := range wide * high {
		down, right := i/wide-p.row, i%wide-p.column
		if distance := down*down + right*right; distance < least {
			at, least = i, distance
		}
	}
	return at
}

// modelCut returns the blocks that cover a plane.
func modelCut(l []int, wide, high int) []api.Block {
	var out []api.Block
	for _, places := range blockPlaces(wide, high) {
		var b api.Block
		for i, p := range places {
			b[i] = l[nearest(p, wide, high)] - 128
		}
		out = append(out, b)
	}
	return out
}

// modelJoin returns the samples of a plane.
func modelJoin(l []api.Block, wide, high int) []int {
	out := make([]int, wide*high)
	for k, places := range blockPlaces(wide, high) {
		for i, p := range places {
			if p.row >= high || p.column >= wide {
				continue
			}
			n := l[k][i] + 128
			switch {
			case n < 0:
				n = 0
			case n > 255:
				n = 255
			}
			out[wide*p.row+p.column] = n
		}
	}
	return out
}

// eachSize calls f for each width and height of someSides.
func eachSize(f func(wide, high int)) {
	for _, wide := range someSides {
		for _, high := range someSides {
			f(wide, high)
		}
	}
}

// eachWrongSize calls f for pairs of a width and a height of which at least one is wrong.
func eachWrongSize(f func(wide, high int)) {
	for _, wrong := range wrongSides {
		for _, right := range []int{1, 8, 9, 64} {
			f(wrong, right)
			f(right, wrong)
		}
		for _, other := range wrongSides {
			f(wrong, other)
		}
	}
}

// all returns n equal elements.
func all[T any](n int, x T) []T {
	return slices.Repeat([]T{x}, n)
}

// mixed returns n numbers in [low, high].
func mixed(r *samples.Sequence, n, low, high int) []int {
	out := make([]int, n)
	for i := range out {
		out[i] = low + r.Below(high-low+1)
	}
	return out
}

// blocks returns n blocks of numbers in [low, high].
func blocks(r *samples.Sequence, n, low, high int) []api.Block {
	out := make([]api.Block, n)
	for k := range out {
		copy(out[k][:], mixed(r, 64, low, high))
	}
	return out
}

// count returns the number of blocks that cover a plane.
func count(wide, high int) int {
	return len(blockPlaces(wide, high))
}

func expectMany(t *testing.T, wide, high, want int) {
	t.Helper()
	if n, e := Many(wide, high); n != want || e != api.OK {
		t.Errorf("Many of %d by %d: got %d and the error %d, want %d", wide, high, n, e, want)
	}
}

func expectCut(t *testing.T, l []int, wide, high int, want []api.Block) {
	t.Helper()
	b, e := Cut(l, wide, high)
	if e != api.OK || len(b) != len(want) {
		t.Errorf("Cut of %d by %d: got %d blocks and the error %d, want %d blocks", wide, high, len(b), e, len(want))
		return
	}
	for k := range b {
		if b[k] != want[k] {
			t.Errorf("Cut of %d by %d, block %d: got %v, want %v", wide, high, k, b[k], want[k])
		}
	}
}

func expectJoin(t *testing.T, l []api.Block, wide, high int, want []int) {
	t.Helper()
	if p, e := Join(l, wide, high); e != api.OK || !slices.Equal(p, want) {
		t.Errorf("Join of %d by %d: got %v and the error %d, want %v", wide, high, p, e, want)
	}
}

func expectManyError(t *testing.T, wide, high int, want api.Errno) {
	t.Helper()
	if n, e := Many(wide, high); n != 0 || e != want {
		t.Errorf("Many of %d by %d: got %d and the error %d, want 0 and the error %d", wide, high, n, e, want)
	}
}

// expectCutError tests an error of Cut, beside which there are no blocks.
func expectCutError(t *testing.T, l []int, wide, high int, want api.Errno) {
	t.Helper()
	if b, e := Cut(l, wide, high); len(b) != 0 || e != want {
		t.Errorf("Cut of %d samples, %d by %d: got %d blocks and the error %d, want none and the error %d", len(l), wide, high, len(b), e, want)
	}
}

// expectJoinError tests an error of Join, beside which there are no samples.
func expectJoinError(t *testing.T, l []api.Block, wide, high int, want api.Errno) {
	t.Helper()
	if p, e := Join(l, wide, high); len(p) != 0 || e != want {
		t.Errorf("Join of %d blocks, %d by %d: got %d samples and the error %d, want none and the error %d", len(l), wide, high, len(p), e, want)
	}
}
