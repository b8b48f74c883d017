package seg

import (
	"bytes"
	"slices"
	"testing"

	"mezzotint/api"
	"mezzotint/samples"
)

// The document's example.
func TestEncodeNoBlocks(t *testing.T) {
	for _, x := range []api.Tables{{}, both(chain(0)), both(flat(9)), {First: flat(9)}, {Rest: chain(1, 2)}} {
		expectEncode(t, x, nil, nil)
		expectEncode(t, x, []api.Block{}, nil)
		expectDecode(t, x, nil, nil)
	}
}

// The digits of the tokens are written beside the blocks.
func TestEncodeWrittenOut(t *testing.T) {
	x := api.Tables{First: chain(0, 12, 11), Rest: chain(0, 11, 240, 1)}
	l := []api.Block{
		{-2047},            // 110 00000000000, 0
		{2047, 1365},       // 10 111111111110, 10 10101010101, 0
		{0: 2047, 19: 1},   // 0, 110, 1110 1, 0
		{0: -2047, 1: -1},  // 10 000000000001, 1110 0, 0
		{0: -2047, 1: -32}, // no codeword
	}
	expectEncode(t, x, l[:1], []byte{0xc0, 0x01})
	expectEncode(t, x, l[:3], []byte{0xc0, 0x01, 0x7f, 0xf5, 0x55, 0x4d, 0xd7})
	// 11010 10 0, 00000000, 001 1110 0, 0 1111111
	expectEncode(t, x, l[:4], []byte{0xc0, 0x01, 0x7f, 0xf5, 0x55, 0x4d, 0xd4, 0x00, 0x3c, 0x7f})
	expectDecode(t, x, []byte{0xc0, 0x01, 0x7f, 0xf5, 0x55, 0x4d, 0xd4, 0x00, 0x3c, 0x7f}, l[:4])
	expectEncodeError(t, x, l, api.ErrNone)
}

// Blocks of three bits, 010 each: after eight of them, each number of fill bits has come once.
func TestEncodeFillBits(t *testing.T) {
	x := api.Tables{First: chain(0), Rest: chain(9, 0)}
	for n, want := range [][]byte{{}, {0x5f}, {0x4b}, {0x49, 0x7f}, {0x49, 0x2f}, {0x49, 0x25}, {0x49, 0x24, 0xbf}, {0x49, 0x24, 0x97}, {0x49, 0x24, 0x92}} {
		expectEncode(t, x, make([]api.Block, n), want)
		expectDecode(t, x, want, make([]api.Block, n))
	}
}

// Bits that end just at a byte are followed by no byte of fill bits.
func TestEncodeEndsAtByte(t *testing.T) {
	x := both(chain(0))
	expectEncode(t, x, make([]api.Block, 3), []byte{0x03})
	expectEncode(t, x, make([]api.Block, 4), []byte{0x00})
	expectEncode(t, x, make([]api.Block, 5), []byte{0x00, 0x3f})
	expectEncode(t, x, make([]api.Block, 8), []byte{0x00, 0x00})
	expectEncode(t, x, make([]api.Block, 400), make([]byte, 100))
}

// A byte 255 among the bits, and one that ends with fill bits.
func TestEncodeStuffs(t *testing.T) {
	x := api.Tables{First: chain(0), Rest: chain(0, 11)}
	// 0, 10 11111111111, 10 11111111111, 0: the second number is number 2, at the index 8.
	l := []api.Block{{1: 2047, 8: 2047}}
	expectEncode(t, x, l, []byte{0x5f, 0xfe, 0xff, 0x00, 0xef})
	expectDecode(t, x, []byte{0x5f, 0xfe, 0xff, 0x00, 0xef}, l)

	// 0, 62 times 0 1, 10 11111111111: neither an end nor a 0 behind the last number.
	x = api.Tables{First: chain(0), Rest: chain(1, 11)}
	var b api.Block
	for i := 1; i < 63; i++ {
		b[i] = 1
	}
	b[63] = 2047
	want := slices.Concat([]byte{0x2a}, bytes.Repeat([]byte{0xaa}, 14), []byte{0xad, 0xff, 0x00, 0xff, 0x00})
	expectEncode(t, x, []api.Block{b}, want)
	expectDecode(t, x, want, []api.Block{b})
}

// First tokens and other ones with the same symbols have the codewords of their own tables.
func TestEncodeBothTables(t *testing.T) {
	l := []api.Block{{1, 1}, {1}, {2, -1}}
	a, b := chain(0, 1), chain(1, 0)
	// By a: 10 1, 10 1, 0; 0, 0; 10 1, 10 0, 0. By b: 0 1, 0 1, 10; 10, 10; 0 1, 0 0, 10.
	expectEncode(t, both(a), l, []byte{0xb4, 0x58})
	expectEncode(t, both(b), l, []byte{0x5a, 0x92})
	// 10 1, 0 1, 10; 0, 10; 10 1, 0 0, 10, and seven ones
	expectEncode(t, api.Tables{First: a, Rest: b}, l, []byte{0xac, 0xa9, 0x7f})
	// 0 1, 10 1, 0; 10, 0; 0 1, 10 0, 0, and a one
	expectEncode(t, api.Tables{First: b, Rest: a}, l, []byte{0x6a, 0x31})
}

// The same blocks have other bytes by other tables, and these are decoded by their own tables.
func TestEncodeOtherTables(t *testing.T) {
	l := []api.Block{{1, 1}, {0, -1}, {3, 2, 1}, {}}
	seen := map[string]bool{}
	for _, first := range []api.Table{chain(0, 1, 2), chain(2, 1, 0), flat(9), flat(12), short()} {
		for _, rest := range []api.Table{chain(0, 1, 2, 49), chain(49, 2, 0, 1), flat(9), flat(16), short()} {
			x := api.Tables{First: first, Rest: rest}
			b, e := Encode(x, l)
			if e != api.OK || seen[string(b)] {
				t.Errorf("got %x again, or the error %d", b, e)
			}
			seen[string(b)] = true
			expectEncode(t, x, l, modelEncode(x, l))
			expectDecode(t, x, b, l)
		}
	}
}

func TestEncodeAgainstModel(t *testing.T) {
	for _, l := range lists() {
		for _, x := range []api.Tables{both(flat(9)), both(flat(16)), both(short()), {First: short(), Rest: flat(10)}, bestTables(t, l)} {
			expectEncode(t, x, l, modelEncode(x, l))
		}
	}
}

// ErrLarge is no answer to many tokens.
func TestEncodeFullBlocks(t *testing.T) {
	r := samples.Sequence(8)
	l := r.Full(400)
	for _, x := range []api.Tables{both(flat(9)), both(flat(16)), both(short()), bestTables(t, l)} {
		expectEncode(t, x, l, modelEncode(x, l))
	}
	// The codewords of the greatest lengths, and as many bits as blocks can have.
	x := api.Tables{First: chain(4, 5, 6, 7, 8, 9, 10, 0, 1, 2, 3, 20, 21, 22, 11, 12), Rest: chain(20, 21, 22, 23, 24, 25, 26, 27, 28, 29, 30, 31, 32, 33, 34, 11)}
	for k := range l {
		for i := range l[k] {
			l[k][i] = 2047 - 4094*(k%2)
		}
	}
	expectEncode(t, x, l, modelEncode(x, l))
	expectDecode(t, x, modelEncode(x, l), l)
}

// Numbers of fields around those that bits.Write takes in one call: full blocks have 128 fields, and blocks of zeros four.
func TestEncodeManyFields(t *testing.T) {
	r := samples.Sequence(6)
	for n := range 20 {
		l := append(r.Full(154+n/10), r.Blocks(n, 64)...)
		l = append(l, make([]api.Block, n)...)
		for _, x := range []api.Tables{both(flat(9)), both(short())} {
			expectEncode(t, x, l, modelEncode(x, l))
		}
	}
	// Wherever one call ends within a byte, the next one continues.
	l := r.Full(160)
	for width := 1; width <= 8; width++ {
		l[0][1] = 1<<width - 1
		expectEncode(t, both(flat(9)), l, modelEncode(both(flat(9)), l))
	}
	// All fields have 8 or 16 bits, or none: a call ends at a byte.
	l = make([]api.Block, 320)
	for k := range l {
		for i := range l[k] {
			l[k][i] = 128 + r.Below(128)
		}
		l[k][0] = 200 * (1 - k%2)
	}
	for n := 150; n <= 320; n += 5 {
		expectEncode(t, both(flat(16)), l[:n], modelEncode(both(flat(16)), l[:n]))
	}
}

func TestEncodeWrongTables(t *testing.T) {
	good := flat(9)
	for _, w := range wrongTables {
		for _, l := range [][]api.Block{nil, {{}}, {{1, 2, 3}}, {{2048}}, make([]api.Block, 400), make([]api.Block, 401), append(make([]api.Block, 400), api.Block{2048})} {
			expectEncodeError(t, api.Tables{First: w.Table, Rest: good}, l, w.Error)
			expectEncodeError(t, api.Tables{First: w.Table}, l, w.Error)
			expectEncodeError(t, api.Tables{First: good, Rest: w.Table}, l, w.Error)
			expectEncodeError(t, api.Tables{Rest: w.Table}, l, w.Error)
			for _, other := range wrongTables {
				expectEncodeError(t, api.Tables{First: w.Table, Rest: other.Table}, l, w.Error)
			}
		}
	}
}

func TestEncodeLarge(t *testing.T) {
	l := make([]api.Block, 402)
	for _, x := range []api.Tables{both(flat(9)), both(chain(1)), {}} {
		expectEncodeError(t, x, l[:401], api.ErrLarge)
		expectEncodeError(t, x, l, api.ErrLarge)
		for _, k := range []int{0, 200, 400} {
			wrong := slices.Clone(l[:401])
			wrong[k][9] = -2048
			expectEncodeError(t, x, wrong, api.ErrLarge)
		}
	}
}

// A wrong number comes before a missing codeword, wherever both are.
func TestEncodeWrongNumbers(t *testing.T) {
	for _, x := range []api.Tables{both(flat(9)), both(chain(1)), {}, {First: flat(9)}, {Rest: flat(9)}} {
		for _, k := range []int{0, 2, 4} {
			for i := range 64 {
				l := make([]api.Block, 5)
				for _, n := range wrongNumbers {
					l[k][i] = n
					expectEncodeError(t, x, l, api.ErrArg)
				}
			}
		}
	}
	for i := range 64 {
		for _, n := range []int{-2047, 2047} {
			l := make([]api.Block, 3)
			l[1][i] = n
			expectEncode(t, both(flat(9)), l, modelEncode(both(flat(9)), l))
		}
	}
}

func TestEncodeNoCodeword(t *testing.T) {
	all := flat(9)
	for _, c := range []struct {
		first, rest api.Table
		l           []api.Block
	}{
		{api.Table{}, all, []api.Block{{}}},
		{all, api.Table{}, []api.Block{{}}},
		{api.Table{}, api.Table{}, []api.Block{{}}},
		{chain(1, 2, 3), all, []api.Block{{}}},
		{chain(0, 1, 2), all, []api.Block{{4}}},
		{chain(0), all, []api.Block{{}, {}, {1}}},
		{chain(3, 0), all, []api.Block{{7}, {7}, {9}}},
		{all, chain(1, 2), []api.Block{{}}},
		{all, chain(0, 1), []api.Block{{5, 2}}},
		{all, chain(0, 1), []api.Block{{5, 1}, {6, 1}, {6, 1, 1}}},
		{all, chain(0, 1, 4), []api.Block{{0: 1, 19: 9}}},
		{all, chain(1), []api.Block{{0, 1}}},
		{all, chain(1, 240, 225), []api.Block{{63: -1}, {62: 1}}},
		// The other table has the codeword.
		{chain(1), chain(0), []api.Block{{}}},
		{chain(0), chain(1), []api.Block{{}}},
	} {
		expectEncodeError(t, api.Tables{First: c.first, Rest: c.rest}, c.l, api.ErrNone)
	}
	l := make([]api.Block, 400)
	l[399][63] = 1
	expectEncodeError(t, both(chain(0)), l, api.ErrNone)
	expectEncode(t, both(chain(0, 240, 225)), l, modelEncode(both(chain(0, 240, 225)), l))
}

// Symbols without a use need no codeword, and a codeword needs no use.
func TestEncodeOnlyUsedCodewords(t *testing.T) {
	expectEncode(t, api.Tables{First: chain(2), Rest: chain(0)}, []api.Block{{3}}, []byte{0x6f}) // 0 11, 0
	var b api.Block
	for i := range b {
		b[i] = 1
	}
	x := both(chain(1))
	expectEncode(t, x, []api.Block{b}, bytes.Repeat([]byte{0x55}, 16))
	expectDecode(t, x, bytes.Repeat([]byte{0x55}, 16), []api.Block{b})
}

// P2: neither the arguments nor their unused capacity change, and a result belongs to the caller.
func TestEncodeKeepsArguments(t *testing.T) {
	for _, l := range lists() {
		x := bestTables(t, l)
		x.First.Syms, x.Rest.Syms = samples.Roomy(x.First.Syms, -3), samples.Roomy(x.Rest.Syms, -4)
		l = samples.Roomy(l, api.Block{7: 2048})
		first, rest, blocks := slices.Clone(x.First.Syms[:cap(x.First.Syms)]), slices.Clone(x.Rest.Syms[:cap(x.Rest.Syms)]), slices.Clone(l[:cap(l)])
		want := modelEncode(x, l)
		a, _ := Encode(x, l)
		b, _ := Encode(x, l)
		samples.Overwrite(b, 77)
		if !bytes.Equal(a, want) {
			t.Errorf("two results share memory: got %x, want %x", a, want)
		}
		samples.Overwrite(a, 78)
		Encode(x, l[:len(l)+1])
		Encode(api.Tables{First: x.First}, l)
		Encode(api.Tables{Rest: x.Rest}, l)
		if !slices.Equal(x.First.Syms[:cap(x.First.Syms)], first) || !slices.Equal(x.Rest.Syms[:cap(x.Rest.Syms)], rest) || !slices.Equal(l[:cap(l)], blocks) {
			t.Error("the arguments have changed")
		}
		expectEncode(t, x, l, want)
	}
}
