package frame

import (
	"testing"

	"mezzotint/api"
)

// A picture of one value has blocks of one number: eight times the value less 128.
func TestBlocksOfOneValue(t *testing.T) {
	for _, s := range someSizes {
		many := (s[0] + 7) / 8 * ((s[1] + 7) / 8)
		for _, n := range []int{0, 1, 100, 127, 128, 129, 200, 255} {
			expectBlocks(t, uniform(s[0], s[1], n), even(1), all(many, api.Block{8 * (n - 128)}))
		}
	}
	for n := range 256 {
		expectBlocks(t, uniform(1, 1, n), even(1), []api.Block{{8 * (n - 128)}})
		expectBlocks(t, uniform(9, 1, n), even(8), []api.Block{{n - 128}, {n - 128}})
	}
}

// The chrominance of grays has blocks of zeros.
func TestBlocksOfGray(t *testing.T) {
	for n := range 256 {
		expectBlocks(t, uniform(1, 1, n, n, n), even(1), []api.Block{{8 * (n - 128)}, {}, {}})
	}
	gray := api.Block{8 * 72}
	expectBlocks(t, uniform(9, 8, 200, 200, 200), even(1), []api.Block{gray, gray, {}, {}, {}, {}})
}

// Red 200, green 100 and blue 50 are converted to 124, 86 and 182.
func TestBlocksOfOneColor(t *testing.T) {
	expectBlocks(t, uniform(1, 1, 200, 100, 50), even(1), []api.Block{{-32}, {-336}, {432}})
	expectBlocks(t, uniform(8, 8, 200, 100, 50), even(10), []api.Block{{-3}, {-34}, {43}})
	y, u, v := api.Block{-32}, api.Block{-336}, api.Block{432}
	expectBlocks(t, uniform(8, 9, 200, 100, 50), even(1), []api.Block{y, y, u, u, v, v})
	expectBlocks(t, uniform(17, 9, 200, 100, 50), even(1), []api.Block{y, y, y, y, y, y, u, u, u, u, u, u, v, v, v, v, v, v})
}

func TestBlocksRounded(t *testing.T) {
	for _, c := range []struct{ sample, by, want int }{
		{100, 1, -224}, {100, 255, -1}, {100, 64, -4}, {100, 65, -3}, {100, 63, -4}, // -3.5, -3.45, -3.56
		{156, 64, 4}, {156, 65, 3}, {0, 255, -4}, {0, 3, -341}, {129, 16, 1}, {129, 17, 0}, {127, 16, -1}, {127, 17, 0},
	} {
		expectBlocks(t, uniform(2, 2, c.sample), changed(even(1), 0, c.by), []api.Block{{c.want}})
		expectBlocks(t, uniform(2, 2, c.sample, c.sample, c.sample), even(c.by), []api.Block{{c.want}, {}, {}})
	}
}

// The left half is 138, and the right one 118. Without rounding the numbers are 72.5, -25.5, 17.0 and -14.4.
func TestBlocksOfTwoHalves(t *testing.T) {
	beside, below := uniform(8, 8, 138), uniform(8, 8, 138)
	for i := range 32 {
		beside.Parts[0][i/4*8+4+i%4] = 118
		below.Parts[0][32+i] = 118
	}
	expectBlocks(t, beside, even(1), []api.Block{{1: 72, 3: -25, 5: 17, 7: -14}})
	expectBlocks(t, below, even(1), []api.Block{{8: 72, 24: -25, 40: 17, 56: -14}})
	q := even(255)
	q[1], q[3], q[5], q[7] = 5, 2, 100, 4
	expectBlocks(t, beside, q, []api.Block{{1: 14, 3: -13, 7: -4}}) // 14.4, -12.5, 0.2, -3.5
	expectBlocks(t, below, q, []api.Block{{}})
	q[8], q[24], q[40], q[56] = 144, 51, 34, 29
	expectBlocks(t, below, q, []api.Block{{8: 1, 40: 1}}) // 0.5, -0.49, 0.5, -0.48
}

// Beyond the edge the last column and the last row go on.
func TestBlocksBeyondTheEdge(t *testing.T) {
	p := api.Picture{Wide: 5, High: 1, Parts: [][]int{{138, 138, 138, 138, 118}}}
	expectBlocks(t, p, even(1), []api.Block{{1: 72, 3: -25, 5: 17, 7: -14}})
	p = api.Picture{Wide: 1, High: 5, Parts: p.Parts}
	expectBlocks(t, p, even(1), []api.Block{{8: 72, 24: -25, 40: 17, 56: -14}})
}

// The blocks of a plane come row by row, and the planes one after the other.
func TestBlocksInOrder(t *testing.T) {
	p := uniform(20, 10, 0)
	var want []api.Block
	for k := range 6 {
		want = append(want, api.Block{8 * k})
	}
	for i := range p.Parts[0] {
		p.Parts[0][i] = 128 + 3*(i/20/8) + i%20/8
	}
	expectBlocks(t, p, even(1), want)
	p.Parts = [][]int{p.Parts[0], p.Parts[0], p.Parts[0]}
	expectBlocks(t, p, even(1), append(want, make([]api.Block, 12)...))
}

func TestBlocksModel(t *testing.T) {
	for _, p := range pictures() {
		for _, q := range quants() {
			expectBlocks(t, p, q, modelBlocks(p, q))
		}
	}
}

func TestBlocksWrongQuants(t *testing.T) {
	for _, p := range []api.Picture{uniform(1, 1, 7), uniform(9, 9, 7, 8, 9)} {
		for _, n := range wrongQuants {
			for i := range 64 {
				expectBlocksError(t, p, changed(even(1), i, n), api.ErrArg)
			}
			expectBlocksError(t, p, even(n), api.ErrArg)
		}
		for i := range 64 {
			for _, n := range []int{1, 255} {
				if _, e := Blocks(p, changed(even(9), i, n)); e != api.OK {
					t.Errorf("Blocks with the quantization %d at the index %d: got the error %d", n, i, e)
				}
			}
		}
	}
}
