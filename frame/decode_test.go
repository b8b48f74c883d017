package frame

import (
	"math"
	"testing"

	"mezzotint/api"
	"mezzotint/plane"
	"mezzotint/samples"
	"mezzotint/wave"
)

// The document's example.
func TestDecodeExample(t *testing.T) {
	for wide := 1; wide <= 64; wide += 7 {
		for high := 1; high <= 64; high += 7 {
			for _, p := range []api.Picture{uniform(wide, high, 128), uniform(wide, high, 128, 128, 128)} {
				expectDecode(t, encoded(t, p, even(255), wide%5), p)
			}
		}
	}
	for _, s := range someSizes {
		for _, p := range []api.Picture{uniform(s[0], s[1], 128), uniform(s[0], s[1], 128, 128, 128)} {
			for k, q := range quants() {
				expectDecode(t, encoded(t, p, q, someEvery[k%len(someEvery)]), p)
			}
		}
	}
	for n := 1; n <= 255; n++ {
		for _, p := range []api.Picture{uniform(9, 8, 128), uniform(9, 8, 128, 128, 128)} {
			expectDecode(t, encoded(t, p, even(n), 0), p)
		}
	}
}

// A picture of one value is restored if the value less 128 times 8 is divided without rest.
func TestDecodeOneValue(t *testing.T) {
	for n := range 256 {
		for _, by := range []int{1, 2, 4, 8} {
			p := uniform(9, 10, n)
			expectDecode(t, encoded(t, p, even(by), 3), p)
			p = uniform(10, 9, n, n, n)
			expectDecode(t, encoded(t, p, even(by), 5), p)
		}
	}
}

// Files written out. By words, 1101 1011 is a block {3}.
func TestDecodeWrittenOut(t *testing.T) {
	words := api.Tables{First: samples.Chain(0, 1, 2), Rest: samples.Chain(0, 1)}
	f := api.File{Wide: 8, High: 8, Parts: 1, Quant: even(8), Tables: words, Data: []byte{0xdb}}
	for _, every := range []int{0, 1, 2, 100} {
		f.Every = every
		expectDecode(t, f, uniform(8, 8, 131))
	}
	f.Wide, f.High = 3, 5
	expectDecode(t, f, uniform(3, 5, 131))
	f.Quant[0] = 100
	expectDecode(t, f, uniform(3, 5, 165)) // 128 + 37.5, less a little
	f.Quant[0] = 255
	expectDecode(t, f, uniform(3, 5, 224)) // 128 + 95.6
	// Three planes of 131 each: red is 131 + 4.2, green 131 - 1.0 - 2.1, and blue 131 + 5.3.
	f = api.File{Wide: 5, High: 2, Parts: 3, Quant: even(8), Tables: words, Every: 1, Data: []byte("\xdb\xff\xd0\xdb\xff\xd1\xdb")}
	expectDecode(t, f, uniform(5, 2, 135, 128, 136))
	f.Every, f.Data = 2, []byte("\xd8\xff\xd0\xdb") // the second block is 0 0
	expectDecode(t, f, uniform(5, 2, 135, 128, 136))
	f.Every, f.Data = 0, []byte("\xd8\x3f") // all in one segment
	expectDecode(t, f, uniform(5, 2, 135, 128, 136))
	f.Every, f.Data = 1, []byte("\xdb\xff\xd0\x3f\xff\xd1\x3f") // a gray
	expectDecode(t, f, uniform(5, 2, 131, 131, 131))
	f.Data = []byte("\x3f\xff\xd0\xdb\xff\xd1\x3f") // -1.0 and 5.3
	expectDecode(t, f, uniform(5, 2, 128, 127, 133))
	f.Data = []byte("\x3f\xff\xd0\x3f\xff\xd1\xdb") // 4.2 and -2.1
	expectDecode(t, f, uniform(5, 2, 132, 126, 128))
}

// The planes of several blocks come one after the other, and the blocks of a plane row by row.
func TestDecodeInOrder(t *testing.T) {
	var blocks []api.Block
	p := uniform(20, 10, 0)
	for k := range 6 {
		blocks = append(blocks, api.Block{8 * k})
	}
	for i := range p.Parts[0] {
		p.Parts[0][i] = 128 + 3*(i/20/8) + i%20/8
	}
	for _, every := range someEvery {
		expectDecode(t, fileOf(t, 20, 10, 1, every, even(1), blocks), p)
		gray := api.Picture{Wide: 20, High: 10, Parts: [][]int{p.Parts[0], p.Parts[0], p.Parts[0]}}
		expectDecode(t, fileOf(t, 20, 10, 3, every, even(1), append(blocks[:6:6], make([]api.Block, 12)...)), gray)
	}
}

// basis returns the value of a basis function; the transform of a unit at row v and column u is basis(u, x) * basis(v, y) at row y and column x.
func basis(u, x int) float64 {
	n, _ := wave.Basis(u, x)
	return float64(n) / 8192
}

// bounds returns by how much each number of a block may change if it is transformed, quantized by q and transformed back.
// Each number of the transform changes by half of q at most, and by a half as it is rounded first; all other inaccuracies are less than 1 together.
func bounds(q api.Block) [64]float64 {
	var out [64]float64
	for i := range out {
		for j, n := range q {
			out[i] += float64(n+1) / 2 * math.Abs(basis(j%8, i%8)*basis(j/8, i/8))
		}
		out[i]++
	}
	return out
}

// expectNear tests that no sample differs from the one of the other picture by more than the bounds, times and plus something.
func expectNear(t *testing.T, got, want api.Picture, limits [64]float64, times, plus float64) {
	t.Helper()
	for k, l := range want.Parts {
		for i, n := range l {
			row, column := i/want.Wide, i%want.Wide
			limit := times*limits[row%8*8+column%8] + plus
			if off := math.Abs(float64(got.Parts[k][i] - n)); off > limit {
				t.Fatalf("%s, plane %d, sample %d: got %d, want %d, which is within %.1f", brief(want), k, i, got.Parts[k][i], n, limit)
			}
		}
	}
}

// A sum of squares does not change by the transform. This bounds the error of all samples of a block together, more closely.
func expectNearAsAWhole(t *testing.T, got, want api.Picture, q api.Block) {
	t.Helper()
	limit := 0.0
	for _, n := range q {
		limit += math.Pow(float64(n+1)/2, 2)
	}
	a, _ := plane.Cut(got.Parts[0], want.Wide, want.High)
	b, _ := plane.Cut(want.Parts[0], want.Wide, want.High)
	for k := range a {
		sum := 0.0
		for i := range a[k] {
			sum += math.Pow(float64(a[k][i]-b[k][i]), 2)
		}
		if math.Sqrt(sum) > math.Sqrt(limit)+5 { // the results are rounded, by at most 4 together
			t.Errorf("%s, block %d: the error is %.1f, which should be within %.1f", brief(want), k, math.Sqrt(sum), math.Sqrt(limit)+5)
		}
	}
}

// There and back: the error is bounded in terms of the quantization.
func TestDecodeWithinBounds(t *testing.T) {
	for _, p := range pictures() {
		for _, q := range quants() {
			f := encoded(t, p, q, 2)
			got, e := Decode(f)
			if e != api.OK || got.Wide != p.Wide || got.High != p.High || len(got.Parts) != len(p.Parts) || Check(got) != api.OK {
				t.Fatalf("Decode of Encode of %s: got %s and the error %d", brief(p), brief(got), e)
			}
			if len(p.Parts) == 1 {
				expectNear(t, got, p, bounds(q), 1, 0)
				if p.Wide%8 == 0 && p.High%8 == 0 {
					expectNearAsAWhole(t, got, p, q)
				}
				continue
			}
			// A color has an error of one luminance and at most 1.772 chrominances, each with a rounding before.
			expectNear(t, got, p, bounds(q), 2.772, 2.772/2+1)
		}
	}
}

func TestDecodeSameForAllEvery(t *testing.T) {
	for k, p := range pictures() {
		for _, q := range quants()[k%3 : k%3+4] {
			want, _ := Decode(encoded(t, p, q, 0))
			for _, every := range []int{1, 2, 7, 100} {
				expectDecode(t, encoded(t, p, q, every), want)
			}
		}
	}
}

func TestDecodeModelOfPictures(t *testing.T) {
	for _, p := range pictures() {
		for _, q := range quants() {
			f := encoded(t, p, q, 5)
			expectDecode(t, f, modelDecode(f, modelBlocks(p, q)))
		}
	}
}

// Blocks that no picture has.
func TestDecodeModel(t *testing.T) {
	r := samples.Sequence(20)
	for _, s := range someSizes {
		many, _ := plane.Many(s[0], s[1])
		for _, parts := range []int{1, 3} {
			for _, q := range quants() {
				for _, share := range []int{1, 2, 20} {
					blocks := r.Blocks(parts*many, share)
					f := fileOf(t, s[0], s[1], parts, r.Below(101), q, blocks)
					expectDecode(t, f, modelDecode(f, blocks))
				}
			}
		}
	}
}

// Products and sums far beyond 40000, of both signs.
func TestDecodeClamps(t *testing.T) {
	r := samples.Sequence(21)
	for _, by := range []int{1, 19, 20, 100, 254, 255} {
		for _, parts := range []int{1, 3} {
			for _, n := range []int{2047, -2047, 2046, 1000} {
				same := all(2*parts, even(n))
				f := fileOf(t, 9, 8, parts, 1, even(by), same)
				expectDecode(t, f, modelDecode(f, same))
				single := all(2*parts, api.Block{n})
				f = fileOf(t, 9, 8, parts, 0, even(by), single)
				expectDecode(t, f, modelDecode(f, single))
				mixed := make([]api.Block, 2*parts)
				for k := range mixed {
					for i := range mixed[k] {
						mixed[k][i] = n - 2*n*r.Below(2)
					}
				}
				f = fileOf(t, 8, 9, parts, 2, even(by), mixed)
				expectDecode(t, f, modelDecode(f, mixed))
			}
		}
	}
	// 8 times 2047 times 255 is 0 or 255 everywhere, but with the product clamped.
	expectDecode(t, fileOf(t, 8, 8, 1, 0, even(255), []api.Block{{2047}}), uniform(8, 8, 255))
	expectDecode(t, fileOf(t, 8, 8, 1, 0, even(255), []api.Block{{-2047}}), uniform(8, 8, 0))
	// The sum at the top left is 41 times as large as 40000, and elsewhere of both signs.
	p, e := Decode(fileOf(t, 8, 8, 1, 0, even(255), []api.Block{even(2047)}))
	if e != api.OK || p.Parts[0][0] != 255 {
		t.Errorf("got %v and the error %d", p, e)
	}
}

// The product is clamped before it is transformed: 40000 and 40000 cancel each other out at the last column, 255*2047 and 255*160 do not.
func TestDecodeClampsBeforeTransform(t *testing.T) {
	b := api.Block{0: 2047, 1: 157}
	f := fileOf(t, 8, 1, 1, 0, even(255), []api.Block{b})
	want := modelDecode(f, []api.Block{b})
	expectDecode(t, f, want)
	if want.Parts[0][7] != 0 {
		t.Errorf("got %v", want)
	}
}
