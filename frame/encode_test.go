package frame

import (
	"bytes"
	"slices"
	"testing"

	"mezzotint/api"
	"mezzotint/best"
	"mezzotint/file"
	"mezzotint/samples"
	"mezzotint/scan"
	"mezzotint/seg"
	"mezzotint/table"
	"mezzotint/zig"
)

var someEvery = []int{0, 1, 2, 3, 8, 99, 100}

// A block {3} has the tokens 2 with the value 11, and 0; behind 3 a block of zeros has the tokens 2 with the value 00, and 0.
func TestEncodeWrittenOut(t *testing.T) {
	chain := samples.Chain
	f := api.File{Wide: 1, High: 1, Parts: 1, Quant: even(8), Tables: api.Tables{First: chain(2), Rest: chain(0)}, Data: []byte{0x6f}}
	for _, every := range []int{0, 1, 2, 64, 100} {
		f.Every = every
		expectFile(t, uniform(1, 1, 131), even(8), every, f)
	}
	f = api.File{Wide: 7, High: 8, Parts: 3, Quant: even(8)}
	gray := uniform(7, 8, 131, 131, 131)
	for _, c := range []struct {
		every int
		first []int
		data  string
	}{
		{0, []int{2, 0}, "\x60\x9f"},
		{1, []int{0, 2}, "\xb7\xff\xd0\x3f\xff\xd1\x3f"}, // each segment starts from 0
		{2, []int{2, 0}, "\x60\xff\xd0\x9f"},
		{3, []int{2, 0}, "\x60\x9f"},
		{4, []int{2, 0}, "\x60\x9f"},
		{100, []int{2, 0}, "\x60\x9f"},
	} {
		f.Every, f.Tables, f.Data = c.every, api.Tables{First: chain(c.first...), Rest: chain(0)}, []byte(c.data)
		expectFile(t, gray, even(8), c.every, f)
	}
}

func TestEncodeFields(t *testing.T) {
	for _, p := range pictures() {
		for k, q := range quants() {
			for _, every := range []int{0, 1, 100} {
				f := encoded(t, p, q, every)
				if f.Wide != p.Wide || f.High != p.High || f.Parts != len(p.Parts) || f.Quant != q || f.Every != every {
					t.Errorf("Encode of %s by %d and quantization %d: got the fields %d, %d, %d, %d and %v", brief(p), every, k, f.Wide, f.High, f.Parts, f.Every, f.Quant)
				}
				if e := file.Check(f); e != api.OK {
					t.Errorf("Encode of %s by %d and quantization %d: got a file with the error %d", brief(p), every, k, e)
				}
			}
		}
	}
	for every := range 101 {
		if f := encoded(t, slope(20, 20, 3), even(9), every); f.Every != every {
			t.Errorf("got %d in place of %d", f.Every, every)
		}
	}
}

// sums returns how often each symbol is that of a first token, and of another one, in all segments together.
func sums(blocks []api.Block, every int) ([]int, []int) {
	first, rest := make([]int, 256), make([]int, 256)
	for _, group := range groups(blocks, every) {
		a, b, _ := seg.Counts(group)
		for s := range 256 {
			first[s] += a[s]
			rest[s] += b[s]
		}
	}
	return first, rest
}

// expectSymbols tests that a table is valid and has exactly the symbols that occur.
func expectSymbols(t *testing.T, x api.Table, counts []int) {
	t.Helper()
	var want []int
	for s, n := range counts {
		if n > 0 {
			want = append(want, s)
		}
	}
	got := slices.Sorted(slices.Values(x.Syms))
	if e := table.Check(x); e != api.OK || !slices.Equal(got, want) {
		t.Errorf("got the error %d and the symbols %v, want %v", e, got, want)
	}
}

// expectBest tests that a table has exactly the symbols that occur, and the cost of the one that best.Make returns.
func expectBest(t *testing.T, x api.Table, counts []int) {
	t.Helper()
	expectSymbols(t, x, counts)
	least, e := best.Make(counts)
	if e != api.OK {
		t.Fatalf("best.Make: got the error %d", e)
	}
	want, _ := best.Cost(least, counts)
	if got, e := best.Cost(x, counts); got != want || e != api.OK {
		t.Errorf("got a table of the cost %d and the error %d, want %d", got, e, want)
	}
}

func TestEncodeTablesAndData(t *testing.T) {
	for k, p := range pictures() {
		for n, q := range quants() {
			blocks := modelBlocks(p, q)
			for _, every := range []int{0, someEvery[(k+n)%len(someEvery)]} {
				f := encoded(t, p, q, every)
				first, rest := sums(blocks, every)
				if slices.Max(rest) > api.MaxCount {
					t.Fatalf("%s has a symbol with the count %d", brief(p), slices.Max(rest))
				}
				expectBest(t, f.Tables.First, first)
				expectBest(t, f.Tables.Rest, rest)
				want, e := scan.Encode(f.Tables, blocks, every)
				if !bytes.Equal(f.Data, want) || e != api.OK {
					t.Errorf("Encode of %s by %d: got %x, want %x and the error %d", brief(p), every, f.Data, want, e)
				}
			}
		}
	}
}

// The counts depend on the segments: of these blocks, which are all the same, each first one of a segment has another token.
func TestEncodeCountsBySegments(t *testing.T) {
	p := uniform(64, 8, 200)
	for _, c := range []struct{ every, steps int }{{0, 1}, {1, 8}, {2, 4}, {3, 3}, {4, 2}, {5, 2}, {7, 2}, {8, 1}, {9, 1}, {100, 1}} {
		first, _ := sums(modelBlocks(p, even(1)), c.every)
		if first[10] != c.steps || first[0] != 8-c.steps { // 576 has ten bits
			t.Fatalf("by %d: got the counts %d and %d", c.every, first[10], first[0])
		}
		f := encoded(t, p, even(1), c.every)
		expectBest(t, f.Tables.First, first)
	}
}

// weighty returns a picture whose blocks have n numbers of four bits, behind no zero and other than the first one of a block, and then small ones.
func weighty(n int) api.Picture {
	r := samples.Sequence(19)
	var blocks []api.Block
	for range 192 {
		var b api.Block
		for i := 1; i < 64; i++ {
			b[i] = r.Below(3) - 1
			if n > 0 {
				b[i] = 11 - 22*r.Below(2)
				n--
			}
		}
		blocks = append(blocks, zig.From(b))
	}
	return modelDecode(api.File{Wide: 64, High: 64, Parts: 3, Quant: even(1)}, blocks)
}

// leastCost returns the cost of Huffman's code with a further symbol that does not occur, so that the codeword of ones only is that of no other one. It has no limit of its lengths, so that no code with such a limit costs less.
func leastCost(counts []int) int {
	l := []int{0}
	for _, n := range counts {
		if n > 0 {
			l = append(l, n)
		}
	}
	cost := 0
	for len(l) > 1 {
		slices.Sort(l)
		cost += l[0] + l[1]
		l = append(l[2:], l[0]+l[1])
	}
	return cost
}

// costOf returns the cost of a table, however large the counts are.
func costOf(t *testing.T, x api.Table, counts []int) int {
	t.Helper()
	words, e := table.Words(x)
	if e != api.OK {
		t.Fatalf("table.Words: got the error %d", e)
	}
	cost := 0
	for _, w := range words {
		cost += counts[w.Sym] * w.Long
	}
	return cost
}

// A symbol may occur more often than best.Make admits.
func TestEncodeManyEqualSymbols(t *testing.T) {
	for _, n := range []int{9000, 9998, 9999, 10000, 10001, 10500, 11000, 12000, 12095, 12096} {
		p := weighty(n)
		blocks := modelBlocks(p, even(1))
		for _, every := range []int{0, 1, 7} {
			first, rest := sums(blocks, every)
			if rest[4] != n {
				t.Fatalf("the symbol 4 has the count %d, want %d", rest[4], n)
			}
			f := encoded(t, p, even(1), every)
			expectBest(t, f.Tables.First, first)
			expectSymbols(t, f.Tables.Rest, rest)
			if got, want := costOf(t, f.Tables.Rest, rest), leastCost(rest); got != want {
				t.Errorf("%d equal symbols, by %d: got the cost %d, want %d", n, every, got, want)
			}
			if want, e := scan.Encode(f.Tables, blocks, every); !bytes.Equal(f.Data, want) || e != api.OK {
				t.Errorf("%d equal symbols, by %d: the data are not those of scan.Encode", n, every)
			}
			expectDecode(t, f, modelDecode(f, blocks))
		}
	}
}

func TestEncodeWrongEvery(t *testing.T) {
	for _, p := range []api.Picture{uniform(1, 1, 7), slope(20, 9, 3)} {
		for _, every := range wrongEvery {
			expectEncodeError(t, p, even(1), every, api.ErrArg)
		}
	}
}

func TestEncodeWrongQuants(t *testing.T) {
	for _, p := range []api.Picture{uniform(1, 1, 7), uniform(9, 9, 7, 8, 9)} {
		for _, n := range wrongQuants {
			for _, every := range []int{0, 1, 100, -1, 101} {
				expectEncodeError(t, p, even(n), every, api.ErrArg)
				expectEncodeError(t, p, changed(even(255), 63, n), every, api.ErrArg)
			}
		}
	}
}

// Of the errors of Encode only that of a wrong length is not ErrArg: it comes before the others.
func TestEncodeOrder(t *testing.T) {
	p := withLength(uniform(9, 9, 7, 8, 9), 2, 80)
	for _, n := range wrongQuants {
		for _, every := range wrongEvery {
			expectEncodeError(t, p, even(n), every, api.ErrForm)
			expectEncodeError(t, p, even(1), every, api.ErrForm)
			expectEncodeError(t, p, even(n), 0, api.ErrForm)
		}
	}
}
