package frame

import (
	"bytes"
	"fmt"
	"math"
	"reflect"
	"slices"
	"testing"

	"mezzotint/api"
	"mezzotint/plane"
	"mezzotint/quant"
	"mezzotint/samples"
	"mezzotint/scan"
	"mezzotint/tint"
	"mezzotint/wave"
)

var (
	someSizes    = [][2]int{{1, 1}, {1, 9}, {7, 8}, {8, 8}, {9, 8}, {8, 17}, {20, 9}, {16, 16}, {23, 25}, {64, 1}, {1, 64}, {63, 10}, {64, 64}}
	extremes     = []int{1 << 31, -1 << 31, 1 << 32, -1 << 32, 1<<32 + 1, 1<<32 + 8, 1 << 61, 1 << 62, -1 << 62, math.MinInt32, math.MaxInt32, math.MinInt, math.MinInt + 1, math.MinInt + 8, math.MaxInt - 8, math.MaxInt - 1, math.MaxInt}
	wrongSides   = append([]int{0, 65, -1, -2, -8, -64, 66, 128, 256, 257}, extremes...)
	wrongSamples = append([]int{-1, 256, -2, 257, -128, -255, -256, 383, 512}, extremes...)
	wrongQuants  = append([]int{0, 256, -1, 257, -255, 511}, extremes...)
	wrongEvery   = append([]int{-1, 101, -2, 102, -100, 256, 400}, extremes...)
)

// all returns n equal elements.
func all[T any](n int, x T) []T {
	return slices.Repeat([]T{x}, n)
}

// even returns the block of 64 numbers n.
func even(n int) api.Block {
	return api.Block(all(64, n))
}

// changed returns the block with n at index i.
func changed(b api.Block, i, n int) api.Block {
	b[i] = n
	return b
}

// uniform returns a picture with these numbers as the samples of its planes.
func uniform(wide, high int, l ...int) api.Picture {
	p := api.Picture{Wide: wide, High: high}
	for _, n := range l {
		p.Parts = append(p.Parts, all(wide*high, n))
	}
	return p
}

// noise returns a picture of many planes with samples in [from, to].
func noise(r *samples.Sequence, wide, high, many, from, to int) api.Picture {
	p := uniform(wide, high, make([]int, many)...)
	for _, l := range p.Parts {
		for i := range l {
			l[i] = from + r.Below(to-from+1)
		}
	}
	return p
}

// slope returns a picture of many planes whose samples rise to the right and downwards, differently in each plane.
func slope(wide, high, many int) api.Picture {
	p := uniform(wide, high, make([]int, many)...)
	for k, l := range p.Parts {
		for i := range l {
			l[i] = (i%wide*(k+1) + i/wide*(3-k)) % 256
		}
	}
	return p
}

// pictures returns pictures of several kinds, of one plane and of three.
func pictures() []api.Picture {
	r := samples.Sequence(15)
	var out []api.Picture
	for _, s := range someSizes {
		for _, many := range []int{1, 3} {
			out = append(out, slope(s[0], s[1], many), noise(&r, s[0], s[1], many, 0, 255))
		}
	}
	out = append(out, noise(&r, 40, 40, 1, 120, 136), noise(&r, 40, 40, 3, 120, 136), uniform(17, 30, 9, 8, 7), uniform(30, 17, 255))
	for _, many := range []int{1, 3} {
		extreme := noise(&r, 21, 22, many, 0, 1)
		for _, l := range extreme.Parts {
			for i := range l {
				l[i] *= 255
			}
		}
		out = append(out, extreme)
	}
	return out
}

// quants returns quantization blocks.
func quants() []api.Block {
	r := samples.Sequence(16)
	var rising, mixed api.Block
	for i := range rising {
		rising[i] = 1 + 3*(i/8+i%8)
		mixed[i] = 1 + r.Below(255)
	}
	return []api.Block{even(1), even(2), even(16), even(255), rising, mixed, changed(even(1), 0, 255)}
}

// brief describes a picture in a message.
func brief(p api.Picture) string {
	return fmt.Sprintf("the picture of %d by %d with %d planes", p.Wide, p.High, len(p.Parts))
}

// clone returns a copy of a picture.
func clone(p api.Picture) api.Picture {
	q := api.Picture{Wide: p.Wide, High: p.High}
	for _, l := range p.Parts {
		q.Parts = append(q.Parts, slices.Clone(l))
	}
	return q
}

// withSample returns the picture with the sample n at index i of a plane.
func withSample(p api.Picture, part, i, n int) api.Picture {
	p = clone(p)
	p.Parts[part][i] = n
	return p
}

// withLength returns the picture with the first n samples of a plane, or with further ones.
func withLength(p api.Picture, part, n int) api.Picture {
	p = clone(p)
	p.Parts[part] = append(p.Parts[part], make([]int, n)...)[:n]
	return p
}

// modelPlanes returns the planes that are divided into blocks.
func modelPlanes(p api.Picture) [][]int {
	if len(p.Parts) == 1 {
		return p.Parts
	}
	out := clone(p).Parts
	for i := range p.Parts[0] {
		out[0][i], out[1][i], out[2][i], _ = tint.To(p.Parts[0][i], p.Parts[1][i], p.Parts[2][i])
	}
	return out
}

// modelBlocks returns the quantized blocks of a picture.
func modelBlocks(p api.Picture, q api.Block) []api.Block {
	var out []api.Block
	for _, l := range modelPlanes(p) {
		cut, _ := plane.Cut(l, p.Wide, p.High)
		for _, b := range cut {
			b, _ = wave.To(b)
			b, _ = quant.Down(b, q)
			out = append(out, b)
		}
	}
	return out
}

// modelDecode returns the picture of a file with these blocks.
func modelDecode(f api.File, blocks []api.Block) api.Picture {
	p := api.Picture{Wide: f.Wide, High: f.High}
	many := len(blocks) / f.Parts
	for k := range f.Parts {
		var raw []api.Block
		for _, b := range blocks[k*many : (k+1)*many] {
			b, _ = quant.Up(b, f.Quant)
			b, _ = wave.From(b)
			for i := range b {
				if b[i] > 40000 {
					b[i] = 40000
				} else if b[i] < -40000 {
					b[i] = -40000
				}
			}
			raw = append(raw, b)
		}
		l, _ := plane.Join(raw, f.Wide, f.High)
		p.Parts = append(p.Parts, l)
	}
	if f.Parts == 3 {
		a, b, c := p.Parts[0], p.Parts[1], p.Parts[2]
		for i := range a {
			a[i], b[i], c[i], _ = tint.From(a[i], b[i], c[i])
		}
	}
	return p
}

// groups returns the segments of the blocks. A block begins a new one if its index is a multiple of every.
func groups(l []api.Block, every int) [][]api.Block {
	out := [][]api.Block{nil}
	for i, b := range l {
		if i > 0 && every > 0 && i%every == 0 {
			out = append(out, nil)
		}
		out[len(out)-1] = append(out[len(out)-1], b)
	}
	return out
}

// fileOf returns a file with these blocks and with tables that have all codewords.
func fileOf(t *testing.T, wide, high, parts, every int, q api.Block, blocks []api.Block) api.File {
	t.Helper()
	f := api.File{Wide: wide, High: high, Parts: parts, Quant: q, Tables: samples.Both(samples.Flat(9)), Every: every}
	var e api.Errno
	if f.Data, e = scan.Encode(f.Tables, blocks, every); e != api.OK {
		t.Fatalf("scan.Encode of %d blocks by %d: got the error %d", len(blocks), every, e)
	}
	return f
}

// encoded returns the file of a picture.
func encoded(t *testing.T, p api.Picture, q api.Block, every int) api.File {
	t.Helper()
	f, e := Encode(p, q, every)
	if e != api.OK {
		t.Fatalf("Encode of %s by %d: got the error %d", brief(p), every, e)
	}
	return f
}

// samePicture tells whether two pictures are equal.
func samePicture(p, q api.Picture) bool {
	return p.Wide == q.Wide && p.High == q.High && slices.EqualFunc(p.Parts, q.Parts, slices.Equal[[]int])
}

// sameFile tells whether two files are equal.
func sameFile(f, g api.File) bool {
	tablesAreSame := func(x, y api.Table) bool {
		return x.Counts == y.Counts && slices.Equal(x.Syms, y.Syms)
	}
	return f.Wide == g.Wide && f.High == g.High && f.Parts == g.Parts && f.Quant == g.Quant && f.Every == g.Every &&
		tablesAreSame(f.Tables.First, g.Tables.First) && tablesAreSame(f.Tables.Rest, g.Tables.Rest) && bytes.Equal(f.Data, g.Data)
}

func expectBlocks(t *testing.T, p api.Picture, q api.Block, want []api.Block) {
	t.Helper()
	if l, e := Blocks(p, q); !slices.Equal(l, want) || e != api.OK {
		t.Errorf("Blocks of %s: got %v and the error %d, want %v", brief(p), l, e, want)
	}
}

func expectFile(t *testing.T, p api.Picture, q api.Block, every int, want api.File) {
	t.Helper()
	if f, e := Encode(p, q, every); !sameFile(f, want) || e != api.OK {
		t.Errorf("Encode of %s by %d: got %v and the error %d, want %v", brief(p), every, f, e, want)
	}
}

func expectDecode(t *testing.T, f api.File, want api.Picture) {
	t.Helper()
	if p, e := Decode(f); !samePicture(p, want) || e != api.OK {
		t.Errorf("Decode of %v: got %v and the error %d, want %v", f, p, e, want)
	}
}

func expectBlocksError(t *testing.T, p api.Picture, q api.Block, want api.Errno) {
	t.Helper()
	if l, e := Blocks(p, q); len(l) != 0 || e != want {
		t.Errorf("Blocks of %s: got %d blocks and the error %d, want the error %d", brief(p), len(l), e, want)
	}
}

func expectEncodeError(t *testing.T, p api.Picture, q api.Block, every int, want api.Errno) {
	t.Helper()
	if f, e := Encode(p, q, every); !reflect.DeepEqual(f, api.File{}) || e != want {
		t.Errorf("Encode of %s by %d: got %v and the error %d, want the zero file and the error %d", brief(p), every, f, e, want)
	}
}

func expectDecodeError(t *testing.T, f api.File, want api.Errno) {
	t.Helper()
	if p, e := Decode(f); !reflect.DeepEqual(p, api.Picture{}) || e != want {
		t.Errorf("Decode of %v: got %s and the error %d, want the zero picture and the error %d", f, brief(p), e, want)
	}
}

// expectWrong tests an error of Check, which comes before all others of Blocks and Encode.
func expectWrong(t *testing.T, p api.Picture, want api.Errno) {
	t.Helper()
	if e := Check(p); e != want {
		t.Errorf("Check of %s: got the error %d, want %d", brief(p), e, want)
	}
	for _, q := range []api.Block{even(1), {}, even(256)} {
		expectBlocksError(t, p, q, want)
		for _, every := range []int{0, 1, -1, 101} {
			expectEncodeError(t, p, q, every, want)
		}
	}
}
