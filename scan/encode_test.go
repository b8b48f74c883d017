package scan

import (
	"bytes"
	"encoding/hex"
	"math"
	"slices"
	"strings"
	"testing"

	"mezzotint/api"
	"mezzotint/samples"
)

// unhex returns bytes that are written out, with spaces.
func unhex(text string) []byte {
	b, err := hex.DecodeString(strings.ReplaceAll(text, " ", ""))
	if err != nil {
		panic(err)
	}
	return b
}

// One segment of no bytes, and no marker.
func TestEncodeNoBlocks(t *testing.T) {
	for every := range 101 {
		for _, x := range []api.Tables{{}, words(), both(flat(9)), {First: flat(9)}, {Rest: chain(1, 2)}} {
			expectEncode(t, x, nil, every, nil)
			expectEncode(t, x, []api.Block{}, every, nil)
		}
	}
}

// A number 0 of 3 is 10 11 0 behind 0, and 0 0 behind 3; one of 2 is 10 10 0 behind 0, and 110 0 0 behind 3.
func TestEncodeWrittenOut(t *testing.T) {
	l := []api.Block{{3}, {3}, {2}}
	expectEncode(t, words(), l, 1, unhex("b7 ffd0 b7 ffd1 a7"))
	expectEncode(t, words(), l, 2, unhex("b1 ffd0 a7"))
	expectEncode(t, words(), l[1:], 1, unhex("b7 ffd0 a7"))
	for _, every := range []int{0, 3, 4, 99, 100} {
		expectEncode(t, words(), l, every, unhex("b18f"))
		expectEncode(t, words(), l[1:], every, unhex("b63f"))
		expectEncode(t, words(), l[2:], every, unhex("a7"))
	}
}

func TestEncodeNumbersOfBlocks(t *testing.T) {
	hundred := "b0" + strings.Repeat("00", 24)
	for _, c := range []struct {
		n, every int
		want     string
	}{
		{1, 0, "b7"}, {1, 1, "b7"}, {1, 2, "b7"}, {1, 100, "b7"},
		{2, 0, "b1"}, {2, 1, "b7 ffd0 b7"}, {2, 2, "b1"}, {2, 3, "b1"},
		{3, 0, "b07f"}, {3, 1, "b7 ffd0 b7 ffd1 b7"}, {3, 2, "b1 ffd0 b7"}, {3, 3, "b07f"},
		{4, 0, "b01f"}, {4, 2, "b1 ffd0 b1"}, {4, 3, "b07f ffd0 b7"}, {4, 4, "b01f"},
		{5, 2, "b1 ffd0 b1 ffd1 b7"}, {5, 3, "b07f ffd0 b1"}, {5, 4, "b01f ffd0 b7"},
		{6, 2, "b1 ffd0 b1 ffd1 b1"}, {6, 3, "b07f ffd0 b07f"},
		{99, 100, hundred + "7f"}, {100, 100, hundred + "1f"}, {100, 99, hundred + "7f ffd0 b7"}, {101, 100, hundred + "1f ffd0 b7"},
		{200, 100, hundred + "1f ffd0" + hundred + "1f"}, {301, 100, hundred + "1f ffd0" + hundred + "1f ffd1" + hundred + "1f ffd2 b7"},
	} {
		l := slices.Repeat([]api.Block{{3}}, c.n)
		expectEncode(t, words(), l, c.every, unhex(c.want))
		expectDecode(t, words(), unhex(c.want), c.every, l)
		expectMend(t, words(), unhex(c.want), c.every, l)
	}
}

// The number of the marker passes from 7 to 0, again and again.
func TestEncodeManySegments(t *testing.T) {
	t.Parallel()
	round := "ffd0 b7 ffd1 b7 ffd2 b7 ffd3 b7 ffd4 b7 ffd5 b7 ffd6 b7 ffd7 b7"
	want := unhex("b7" + strings.Repeat(round, 50))
	for n := 1; n <= 400; n++ {
		expectEncode(t, words(), slices.Repeat([]api.Block{{3}}, n), 1, want[:3*n-2])
	}
	// The segments of two blocks have one byte, too.
	want = bytes.ReplaceAll(want, []byte{0xb7}, []byte{0xb1})
	for n := 2; n <= 400; n += 2 {
		expectEncode(t, words(), slices.Repeat([]api.Block{{3}}, n), 2, want[:3*n/2-2])
	}
}

// Each segment is what seg.Encode returns for its blocks alone, so that the number 0 ahead of them is 0.
func TestEncodeAgainstModel(t *testing.T) {
	t.Parallel()
	for _, l := range lists() {
		for _, every := range someEvery {
			for _, x := range severalTables(t, l, every) {
				expectEncode(t, x, l, every, joined(modelPieces(t, x, l, every)...))
			}
		}
	}
	r := samples.Sequence(4)
	l := r.Blocks(101, 20)
	for every := range 101 {
		expectEncode(t, both(flat(9)), l, every, joined(modelPieces(t, both(flat(9)), l, every)...))
	}
}

// As many blocks as there may be, in one segment, in some and in 400.
func TestEncodeFullBlocks(t *testing.T) {
	t.Parallel()
	r := samples.Sequence(5)
	l := r.Full(400)
	for _, every := range []int{0, 1, 7, 100} {
		for _, x := range []api.Tables{both(flat(9)), {First: flat(16), Rest: short()}} {
			b := joined(modelPieces(t, x, l, every)...)
			expectEncode(t, x, l, every, b)
			expectDecode(t, x, b, every, l)
			expectMend(t, x, b, every, l)
		}
	}
}

// A byte 255 among those of a segment is stuffed; those of the markers are not.
func TestEncodeStuffs(t *testing.T) {
	x, b, _ := ones()
	l := []api.Block{b, b, b}
	expectEncode(t, x, l, 1, unhex("5ffeff00ef ffd0 5ffeff00ef ffd1 5ffeff00ef"))

	// 0, 62 times 0 1, 10 11111111111: a segment ends with a stuffed byte, and a marker follows.
	x = api.Tables{First: chain(0), Rest: chain(1, 11)}
	for i := 1; i < 63; i++ {
		b[i] = 1
	}
	b[63] = 2047
	one := "2a" + strings.Repeat("aa", 14) + "adff00ff00"
	l = []api.Block{b, b}
	expectEncode(t, x, l, 1, unhex(one+"ffd0"+one))
	expectDecode(t, x, unhex(one+"ffd0"+one), 1, l)
	expectMend(t, x, unhex(one+"ffd0"+one), 1, l)
}

// A wrong every comes before all other errors.
func TestEncodeWrongEvery(t *testing.T) {
	tables := []api.Tables{{}, words(), both(flat(9))}
	for _, w := range wrongTables {
		tables = append(tables, api.Tables{First: w.Table}, api.Tables{Rest: w.Table})
	}
	for _, every := range wrongEvery {
		for _, x := range tables {
			for _, l := range [][]api.Block{nil, {{3}}, {{2048}}, make([]api.Block, 400), make([]api.Block, 401)} {
				expectEncodeError(t, x, l, every, api.ErrArg)
			}
		}
	}
}

func TestEncodeEachEvery(t *testing.T) {
	l := []api.Block{{3}, {3}, {2}}
	for every := 3; every <= 100; every++ {
		expectEncode(t, words(), l, every, unhex("b18f"))
	}
}

// A wrong First comes before a wrong Rest, and both before errors of the blocks.
func TestEncodeWrongTables(t *testing.T) {
	lists := [][]api.Block{nil, {{}}, {{5, 2}}, {{}, {2048}}, make([]api.Block, 401), append(make([]api.Block, 400), api.Block{-2048})}
	for _, w := range wrongTables {
		for _, l := range lists {
			for _, every := range []int{0, 1, 100} {
				expectEncodeError(t, api.Tables{First: w.Table}, l, every, w.Error)
				expectEncodeError(t, api.Tables{First: w.Table, Rest: flat(9)}, l, every, w.Error)
				expectEncodeError(t, api.Tables{Rest: w.Table}, l, every, w.Error)
				expectEncodeError(t, api.Tables{First: flat(9), Rest: w.Table}, l, every, w.Error)
				for _, other := range wrongTables {
					expectEncodeError(t, api.Tables{First: w.Table, Rest: other.Table}, l, every, w.Error)
				}
			}
		}
	}
}

// More than 400 blocks are too many, however few of them a segment has, and come before wrong numbers and missing codewords.
func TestEncodeLarge(t *testing.T) {
	l := make([]api.Block, 402)
	for _, every := range []int{0, 1, 2, 100} {
		for _, x := range []api.Tables{words(), both(flat(9)), {}} {
			expectEncodeError(t, x, l[:401], every, api.ErrLarge)
			expectEncodeError(t, x, l, every, api.ErrLarge)
			for _, at := range []int{0, 200, 400} {
				wrong := slices.Clone(l[:401])
				wrong[at][5] = 2048
				expectEncodeError(t, x, wrong, every, api.ErrLarge)
			}
		}
		for n := 399; n <= 400; n++ {
			expectEncode(t, words(), l[:n], every, joined(modelPieces(t, words(), l[:n], every)...))
		}
	}
}

// A wrong number comes before a missing codeword, in whichever segments these are.
func TestEncodeWrongNumbers(t *testing.T) {
	for _, every := range []int{0, 1, 2, 5, 100} {
		for _, at := range []int{0, 2, 4} {
			for _, i := range []int{0, 1, 37, 63} {
				l := []api.Block{{7}, {}, {}, {}, {9}}
				for _, n := range wrongNumbers {
					l[at][i] = n
					for _, x := range []api.Tables{both(flat(9)), words(), {}, {First: flat(9)}, {Rest: flat(9)}} {
						expectEncodeError(t, x, l, every, api.ErrArg)
					}
				}
				for _, n := range []int{-2047, 2047} {
					l[at][i] = n
					expectEncode(t, both(flat(9)), l, every, joined(modelPieces(t, both(flat(9)), l, every)...))
				}
			}
		}
	}
	// The differences of numbers 0 may be as large as 4094.
	l := []api.Block{{2047}, {-2047}, {2047}}
	for every := range 4 {
		expectEncode(t, both(flat(9)), l, every, joined(modelPieces(t, both(flat(9)), l, every)...))
	}
}

// Other segments are no reason to return bytes beside the error.
func TestEncodeNoCodeword(t *testing.T) {
	for _, c := range []struct {
		x api.Tables
		b api.Block
	}{
		{words(), api.Block{7}},
		{words(), api.Block{0, 2}},
		{words(), api.Block{63: 1}},
		{api.Tables{First: chain(0, 2, 1), Rest: chain(1, 0)}, api.Block{3, -2}},
	} {
		for n := 1; n <= 6; n++ {
			for at := range n {
				l := make([]api.Block, n)
				l[at] = c.b
				for _, every := range []int{0, 1, 2, 5, 100} {
					expectEncodeError(t, c.x, l, every, api.ErrNone)
				}
			}
		}
	}
	expectEncodeError(t, api.Tables{}, []api.Block{{}}, 1, api.ErrNone)
	expectEncodeError(t, api.Tables{First: chain(0)}, []api.Block{{}}, 1, api.ErrNone)
	expectEncodeError(t, api.Tables{Rest: chain(0)}, []api.Block{{}}, 1, api.ErrNone)
}

// The division decides about the differences and so about the codewords that are needed: 1 for a 5 behind 4, but 3 for one behind 0.
func TestEncodeCodewordsBySegment(t *testing.T) {
	x := api.Tables{First: chain(3, 1), Rest: chain(0)}
	l := []api.Block{{4}, {5}, {4}, {5}}
	expectEncode(t, x, l, 1, joined(modelPieces(t, x, l, 1)...))
	expectEncode(t, x, l, 2, joined(modelPieces(t, x, l, 2)...))
	x.First = chain(3)
	expectEncode(t, x, l, 1, joined(modelPieces(t, x, l, 1)...))
	for _, every := range []int{0, 2, 3, 4} {
		expectEncodeError(t, x, l, every, api.ErrNone)
	}
}

// P2: neither the arguments nor their unused capacity change, and a result belongs to the caller.
func TestEncodeKeepsArguments(t *testing.T) {
	for _, l := range lists() {
		for _, every := range []int{0, 1, 5} {
			x := bestTables(t, l, every)
			x.First.Syms, x.Rest.Syms = samples.Roomy(x.First.Syms, -3), samples.Roomy(x.Rest.Syms, -4)
			l = samples.Roomy(l, api.Block{7: 2048})
			first, rest, blocks := slices.Clone(x.First.Syms[:cap(x.First.Syms)]), slices.Clone(x.Rest.Syms[:cap(x.Rest.Syms)]), slices.Clone(l[:cap(l)])
			want := joined(modelPieces(t, x, l, every)...)
			a, _ := Encode(x, l, every)
			b, _ := Encode(x, l, every)
			samples.Overwrite(b, 77)
			if !bytes.Equal(a, want) {
				t.Errorf("two results share memory: got %x, want %x", a, want)
			}
			samples.Overwrite(a, 78)
			Encode(x, l[:len(l)+1], every)
			Encode(x, l, -1)
			Encode(api.Tables{First: x.First}, l, every)
			if !slices.Equal(x.First.Syms[:cap(x.First.Syms)], first) || !slices.Equal(x.Rest.Syms[:cap(x.Rest.Syms)], rest) || !slices.Equal(l[:cap(l)], blocks) {
				t.Error("the arguments have changed")
			}
			expectEncode(t, x, l, every, want)
		}
	}
}

// P1: no combination of extreme arguments makes a function panic.
func TestNoPanic(t *testing.T) {
	extremes := []int{math.MinInt, -1 << 32, -2048, -1, 0, 1, 15, 100, 101, 400, 2048, 1 << 32, math.MaxInt}
	texts := [][]byte{nil, {0}, {255}, {255, 0}, {255, 208}, {255, 255}, {0xb7, 255, 208, 0xb7}, {255, 208, 255, 208, 255, 208}}
	for _, p := range extremes {
		for _, q := range extremes {
			for _, x := range []api.Tables{
				words(), both(samples.Table([]int{p, q}, 1, 1)), both(samples.Table([]int{0, 1}, p, q)), {First: chain(p), Rest: chain(q)}, {First: samples.Table(nil, p, q, p)},
			} {
				Encode(x, []api.Block{{}, {p, q}}, p)
				Encode(x, make([]api.Block, 401), q)
				for _, b := range texts {
					Decode(x, b, p, q)
					Mend(x, b, p, q)
				}
			}
		}
	}
}
