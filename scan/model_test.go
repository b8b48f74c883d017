package scan

import (
	"bytes"
	"math"
	"slices"
	"testing"

	"mezzotint/api"
	"mezzotint/best"
	"mezzotint/samples"
	"mezzotint/seg"
	"mezzotint/stuff"
)

// The samples that these tests use, by short names.
var (
	chain       = samples.Chain
	flat        = samples.Flat
	short       = samples.Short
	both        = samples.Both
	wrongTables = samples.WrongTables()
)

var (
	someEvery    = []int{0, 1, 2, 3, 7, 8, 64, 99, 100}
	wrongEvery   = []int{-1, 101, -2, 102, -100, 256, -1 << 32, 1 << 32, 1<<32 + 1, math.MinInt, math.MinInt + 1, math.MaxInt - 1, math.MaxInt}
	wrongN       = []int{-1, 401, -2, 402, -400, 1024, -1 << 32, 1 << 32, 1<<32 + 1, math.MinInt, math.MinInt + 1, math.MaxInt - 1, math.MaxInt}
	wrongNumbers = []int{-2048, 2048, -4096, 1 << 32, math.MinInt, math.MaxInt}
	noSegment    = []byte{255, 0, 255, 0, 255, 0} // 24 ones, with which no codeword of any table begins
)

// words are tables whose codewords are short enough to write bytes out by hand.
func words() api.Tables {
	return api.Tables{First: chain(0, 2, 1), Rest: chain(0, 1)}
}

// ones returns the tables and a block by which bytes 255 occur, and its segment: 0, 10 11111111111, 10 11111111111, 0.
func ones() (api.Tables, api.Block, []byte) {
	return api.Tables{First: chain(0), Rest: chain(0, 11)}, api.Block{1: 2047, 8: 2047}, []byte{0x5f, 0xfe, 0xff, 0x00, 0xef}
}

// lists returns lists of no, few and many blocks.
func lists() [][]api.Block {
	r := samples.Sequence(11)
	out := [][]api.Block{nil, {{}}, {{2047}, {-2047}, {2047}}, make([]api.Block, 12), r.Full(9), r.Blocks(100, 50), r.Blocks(400, 90)}
	for n := 1; n <= 30; n++ {
		out = append(out, r.Blocks(n, 1+n*n%47))
	}
	return out
}

// groups returns the segments of the blocks. A block begins a new one if its index is a multiple of every.
func groups(l []api.Block, every int) [][]api.Block {
	out := [][]api.Block{nil}
	for i, b := range l {
		if i > 0 && every > 0 && i%every == 0 {
			out = append(out, nil)
		}
		out[len(out)-1] = append(out[len(out)-1], b)
	}
	return out
}

// bestTables returns the tables of least cost for the segments; they lack the codewords of all other symbols.
func bestTables(t *testing.T, l []api.Block, every int) api.Tables {
	t.Helper()
	first, rest := make([]int, 256), make([]int, 256)
	for _, group := range groups(l, every) {
		a, b, _ := seg.Counts(group)
		for s := range 256 {
			first[s] += a[s]
			rest[s] += b[s]
		}
	}
	a, e1 := best.Make(first)
	b, e2 := best.Make(rest)
	if e1 != api.OK || e2 != api.OK {
		t.Fatalf("best.Make: got the errors %d and %d", e1, e2)
	}
	return api.Tables{First: a, Rest: b}
}

// severalTables returns tables that have all the codewords that the segments need.
func severalTables(t *testing.T, l []api.Block, every int) []api.Tables {
	t.Helper()
	return []api.Tables{both(flat(9)), {First: flat(16), Rest: short()}, bestTables(t, l, every)}
}

// joined returns the pieces with the right markers between them.
func joined(pieces ...[]byte) []byte {
	var out []byte
	for k, p := range pieces {
		if k > 0 {
			out = append(out, 255, "\xd7\xd0\xd1\xd2\xd3\xd4\xd5\xd6"[k%8])
		}
		out = append(out, p...)
	}
	return out
}

// modelPieces returns the bytes of each segment.
func modelPieces(t *testing.T, x api.Tables, l []api.Block, every int) [][]byte {
	t.Helper()
	var out [][]byte
	for _, group := range groups(l, every) {
		b, e := seg.Encode(x, group)
		if e != api.OK {
			t.Fatalf("seg.Encode of %d blocks: got the error %d", len(group), e)
		}
		out = append(out, b)
	}
	return out
}

// modelDecode is Decode for valid arguments, except that b may be wrong.
func modelDecode(x api.Tables, b []byte, n, every int) ([]api.Block, api.Errno) {
	pieces, markers, e := stuff.Split(b)
	empty := groups(make([]api.Block, n), every)
	if e != api.OK || len(pieces) != len(empty) {
		return nil, api.ErrForm
	}
	if !bytes.Equal(joined(pieces...), b) || len(markers) != len(pieces)-1 {
		return nil, api.ErrMark
	}
	var out []api.Block
	for k, group := range empty {
		l, e := seg.Decode(x, pieces[k], len(group))
		if e != api.OK {
			return nil, e
		}
		out = append(out, l...)
	}
	return out, api.OK
}

// modelMend is Mend for valid arguments, except that b may be wrong. It fills the places of the blocks, which are zeros.
func modelMend(x api.Tables, b []byte, n, every int) ([]api.Block, []int, api.Errno) {
	pieces, _, e := stuff.Split(b)
	if e != api.OK {
		return nil, nil, e
	}
	out := make([]api.Block, n)
	var lost []int
	for k, group := range groups(out, every) {
		if k < len(pieces) {
			l, e := seg.Decode(x, pieces[k], len(group))
			if e == api.OK {
				copy(out[k*every:], l)
				continue
			}
		}
		lost = append(lost, k)
	}
	return out, lost, api.OK
}

// without returns the blocks with zeros in place of those of the lost segments.
func without(l []api.Block, every int, lost ...int) []api.Block {
	var out []api.Block
	for k, group := range groups(l, every) {
		if slices.Contains(lost, k) {
			group = make([]api.Block, len(group))
		}
		out = append(out, group...)
	}
	return out
}

func expectEncode(t *testing.T, x api.Tables, l []api.Block, every int, want []byte) {
	t.Helper()
	if b, e := Encode(x, l, every); !bytes.Equal(b, want) || e != api.OK {
		t.Errorf("Encode of %d blocks by %d: got %x and the error %d, want %x", len(l), every, b, e, want)
	}
}

func expectEncodeError(t *testing.T, x api.Tables, l []api.Block, every int, want api.Errno) {
	t.Helper()
	if b, e := Encode(x, l, every); len(b) != 0 || e != want {
		t.Errorf("Encode of %d blocks by %d: got %x and the error %d, want the error %d", len(l), every, b, e, want)
	}
}

func expectDecode(t *testing.T, x api.Tables, b []byte, every int, want []api.Block) {
	t.Helper()
	if l, e := Decode(x, b, len(want), every); !slices.Equal(l, want) || e != api.OK {
		t.Errorf("Decode of %x by %d: got %v and the error %d, want %v", b, every, l, e, want)
	}
}

func expectDecodeError(t *testing.T, x api.Tables, b []byte, n, every int, want api.Errno) {
	t.Helper()
	if l, e := Decode(x, b, n, every); len(l) != 0 || e != want {
		t.Errorf("Decode of %d blocks in %x by %d: got %v and the error %d, want the error %d", n, b, every, l, e, want)
	}
}

func expectMend(t *testing.T, x api.Tables, b []byte, every int, want []api.Block, wantLost ...int) {
	t.Helper()
	l, lost, e := Mend(x, b, len(want), every)
	if !slices.Equal(l, want) || !slices.Equal(lost, wantLost) || e != api.OK {
		t.Errorf("Mend of %x by %d: got %v, %v and the error %d, want %v, %v", b, every, l, lost, e, want, wantLost)
	}
}

func expectMendError(t *testing.T, x api.Tables, b []byte, n, every int, want api.Errno) {
	t.Helper()
	if l, lost, e := Mend(x, b, n, every); len(l) != 0 || len(lost) != 0 || e != want {
		t.Errorf("Mend of %d blocks in %x by %d: got %v, %v and the error %d, want the error %d", n, b, every, l, lost, e, want)
	}
}

// expectBothErrors tests an error that Decode and Mend have in common.
func expectBothErrors(t *testing.T, x api.Tables, b []byte, n, every int, want api.Errno) {
	t.Helper()
	expectDecodeError(t, x, b, n, every, want)
	expectMendError(t, x, b, n, every, want)
}
