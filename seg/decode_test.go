package seg

import (
	"bytes"
	"math"
	"slices"
	"strings"
	"testing"

	"mezzotint/api"
	"mezzotint/samples"
)

// severalTables returns tables that have all the codewords that the blocks need.
func severalTables(t *testing.T, l []api.Block) []api.Tables {
	t.Helper()
	return []api.Tables{both(flat(9)), both(flat(16)), both(short()), {First: flat(11), Rest: short()}, bestTables(t, l)}
}

func TestDecodeThereAndBack(t *testing.T) {
	for _, l := range lists() {
		for _, x := range severalTables(t, l) {
			b, e := Encode(x, l)
			if e != api.OK {
				t.Fatalf("Encode of %d blocks: got the error %d", len(l), e)
			}
			expectDecode(t, x, b, l)
		}
	}
}

func TestDecodeFullBlocks(t *testing.T) {
	r := samples.Sequence(12)
	l := r.Full(400)
	for _, x := range severalTables(t, l) {
		expectDecode(t, x, modelEncode(x, l), l)
	}
}

// All sizes of first tokens, and all zeros and sizes of other ones.
func TestDecodeEachToken(t *testing.T) {
	sizes := both(chain(12, 11, 10, 9, 8, 7, 6, 5, 4, 3, 2, 1, 0))
	for n := -2047; n <= 2047; n++ {
		for _, l := range [][]api.Block{{{n}, {-n}}, {{1: n}}} {
			expectDecode(t, sizes, modelEncode(sizes, l), l)
		}
	}
	for i := range 64 {
		for width := range 12 {
			var l [2]api.Block
			l[0][i], l[1][i] = 1<<width-1, -1<<width+1
			expectDecode(t, both(flat(10)), modelEncode(both(flat(10)), l[:]), l[:])
		}
	}
}

func TestDecodeWrongTables(t *testing.T) {
	good := flat(9)
	for _, w := range wrongTables {
		for _, b := range [][]byte{nil, {0}, {255}, {255, 1}, {0, 0, 0, 0}} {
			for _, n := range []int{0, 1, 400, -1, 401, math.MinInt, math.MaxInt} {
				expectDecodeError(t, api.Tables{First: w.Table, Rest: good}, b, n, w.Error)
				expectDecodeError(t, api.Tables{First: w.Table}, b, n, w.Error)
				expectDecodeError(t, api.Tables{First: good, Rest: w.Table}, b, n, w.Error)
				expectDecodeError(t, api.Tables{Rest: w.Table}, b, n, w.Error)
				for _, other := range wrongTables {
					expectDecodeError(t, api.Tables{First: w.Table, Rest: other.Table}, b, n, w.Error)
				}
			}
		}
	}
}

// A wrong n comes before the errors of stuff.Plain.
func TestDecodeWrongCount(t *testing.T) {
	for _, n := range []int{-1, 401, -2, 402, -400, -1 << 32, 1 << 32, 1<<32 + 1, math.MinInt, math.MaxInt} {
		for _, x := range []api.Tables{{}, both(chain(0)), both(flat(9))} {
			for _, b := range [][]byte{nil, {0}, make([]byte, 101), {255}, {255, 255}, {0, 255, 7}} {
				expectDecodeError(t, x, b, n, api.ErrArg)
			}
		}
	}
	expectDecode(t, both(chain(0)), make([]byte, 100), make([]api.Block, 400))
	expectDecodeError(t, both(chain(0)), make([]byte, 99), 400, api.ErrShort)
	expectDecodeError(t, both(chain(0)), make([]byte, 101), 400, api.ErrForm)
}

// The errors of stuff.Plain come before those of the tokens, wherever the wrong byte is.
func TestDecodePlain(t *testing.T) {
	x := both(chain(0))
	for _, b := range [][]byte{{255}, {255, 1}, {255, 255}, {255, 208}, {255, 255, 0}, {0, 255}, {0, 255, 0, 255}, {0, 255, 217, 0}} {
		for _, n := range []int{0, 1, 4, 5, 400} {
			expectDecodeError(t, x, b, n, api.ErrForm)
		}
	}
	// The tokens of these bytes alone would end too early.
	expectDecodeError(t, x, []byte{0}, 5, api.ErrShort)
	expectDecodeError(t, x, []byte{0, 255}, 5, api.ErrForm)
	// A byte 0 behind a byte 255 is no part of the tokens.
	x = api.Tables{First: chain(0), Rest: chain(0, 11)}
	l := []api.Block{{1: 2047, 8: 2047}}
	expectDecode(t, x, []byte{0x5f, 0xfe, 0xff, 0x00, 0xef}, l)
	expectDecodeError(t, x, []byte{0x5f, 0xfe, 0xff, 0xef}, 1, api.ErrForm)
	expectDecodeError(t, x, []byte{0x5f, 0xfe, 0xff, 0x00}, 1, api.ErrShort)
	expectDecodeError(t, x, []byte{0x5f, 0xfe, 0xff}, 1, api.ErrForm)
	expectDecodeError(t, x, []byte{0x5f, 0xfe, 0xff, 0x00, 0x00, 0xef}, 1, api.ErrForm)
}

// No codeword consists of ones only: fewer blocks leave a 0 behind, and more blocks find too few bits.
func TestDecodeOtherCount(t *testing.T) {
	for _, l := range lists() {
		for _, x := range severalTables(t, l) {
			b := modelEncode(x, l)
			for n := range min(len(l), 5) {
				expectDecodeError(t, x, b, n, api.ErrForm)
				expectDecodeError(t, x, b, len(l)-1-n, api.ErrForm)
			}
			for n := len(l) + 1; n <= min(len(l)+3, 400); n++ {
				expectDecodeError(t, x, b, n, api.ErrShort)
			}
		}
	}
}

func TestDecodeEveryPart(t *testing.T) {
	t.Parallel()
	for _, l := range lists() {
		if len(l) > 10 {
			continue
		}
		for _, x := range severalTables(t, l) {
			b := modelEncode(x, l)
			for n := range b {
				want := api.ErrShort
				if n > 0 && b[n-1] == 255 {
					want = api.ErrForm
				}
				expectDecodeError(t, x, b[:n:n], len(l), want)
				// The unused capacity is no part of the bytes.
				expectDecodeError(t, x, b[:n], len(l), want)
			}
		}
	}
}

// ahead returns right tokens of one to three blocks, in digits; the last block is not complete.
func ahead(x api.Tables) []string {
	whole := tokenText(x, api.Token{Sym: 3, Width: 3, Value: 5}, one(0), zeros, one(2), end)
	return []string{
		tokenText(x, end),
		tokenText(x, one(0)),
		tokenText(x, end, one(0)),
		tokenText(x, end, zeros),
		tokenText(x, one(0), zeros, zeros, zeros, one(3)),
		whole + tokenText(x, end),
		whole + tokenText(x, end, one(5)),
		whole + whole + tokenText(x, one(0), one(15), one(15)),
	}
}

// 16 bits that are no codeword are ErrForm, and fewer are ErrShort.
func TestDecodeCodewords(t *testing.T) {
	for _, x := range []api.Tables{both(flat(9)), both(short()), {First: chain(0, 1, 3), Rest: flat(12)}, {First: flat(12), Rest: chain(0, 1, 33, 240, 81, 241, 49)}} {
		starts := append(ahead(x), "")
		for _, text := range starts {
			for more := range 32 {
				bits := text + strings.Repeat("1", more)
				if len(bits)%8 != 0 {
					continue
				}
				want := api.ErrShort
				if more >= 16 {
					want = api.ErrForm
				}
				expectDecodeError(t, x, packed(bits), 4, want)
			}
		}
	}
	// The longest codeword is the last one, and the 16 ones behind it are none.
	x := api.Tables{First: chain(0), Rest: chain(1, 2, 3, 4, 5, 6, 7, 8, 9, 10, 11, 17, 18, 19, 20, 0)}
	expectDecode(t, x, packed(fill("0"+"1111111111111110")), []api.Block{{}})
	expectDecodeError(t, x, packed(fill("0"+"1111111111111111")), 1, api.ErrForm)
	expectDecodeError(t, x, packed("0"+"111111111111111"), 1, api.ErrShort)
	expectDecodeError(t, x, packed("0"+"1111111"), 1, api.ErrShort)
	expectDecodeError(t, x, []byte{255, 0}, 1, api.ErrShort)
	expectDecodeError(t, x, []byte{255, 0, 255, 0}, 1, api.ErrForm)
	expectDecodeError(t, x, []byte{255, 0, 255, 0, 255, 0}, 1, api.ErrForm)
}

// A table without symbols has no codewords.
func TestDecodeEmptyTables(t *testing.T) {
	expectDecode(t, api.Tables{}, nil, nil)
	expectDecodeError(t, api.Tables{}, []byte{0}, 0, api.ErrForm)
	expectDecodeError(t, api.Tables{}, nil, 1, api.ErrShort)
	expectDecodeError(t, api.Tables{}, []byte{0}, 1, api.ErrShort)
	expectDecodeError(t, api.Tables{}, []byte{0, 0}, 1, api.ErrForm)
	expectDecodeError(t, api.Tables{First: chain(0)}, []byte{0, 0}, 1, api.ErrShort)
	expectDecodeError(t, api.Tables{First: chain(0)}, []byte{0, 0, 0}, 1, api.ErrForm)
}

// The symbol of a first token is refused before its value is read.
func TestDecodeFirstSymbol(t *testing.T) {
	x := both(flat(16))
	for s := range 256 {
		text := digits(16, s)
		want := api.ErrForm
		if s <= 12 {
			want = api.ErrShort
		}
		expectDecodeError(t, x, packed(text), 1, want)
		expectDecodeError(t, x, packed(tokenText(x, end, end)+text), 2, want)
		if s > 12 {
			for _, more := range []int{8, 16, 64, 512} {
				expectDecodeError(t, x, packed(text+strings.Repeat("0", more)), 1, api.ErrForm)
			}
		}
	}
}

// The symbol of another token is refused before its value is read.
func TestDecodeRestSymbol(t *testing.T) {
	x := both(flat(16))
	for s := range 256 {
		text := tokenText(x, end) + digits(16, s)
		want := api.ErrForm
		switch {
		case s == 0:
			expectDecode(t, x, packed(text), []api.Block{{}})
			continue
		case s == 240 || s%16 > 0 && s%16 <= 11:
			want = api.ErrShort
		}
		expectDecodeError(t, x, packed(text), 1, want)
		expectDecodeError(t, x, packed(tokenText(x, end, zeros, zeros)+digits(16, s)), 1, want)
		expectDecodeError(t, x, packed(tokenText(x, end, end)+text), 2, want)
		if want == api.ErrForm {
			for _, more := range []int{8, 16, 64, 512} {
				expectDecodeError(t, x, packed(text+strings.Repeat("0", more)), 1, api.ErrForm)
			}
		}
	}
}

// Codewords of 16 bits, and values of which bits are missing.
func TestDecodeValueCutOff(t *testing.T) {
	x := both(flat(16))
	for width := 1; width <= 12; width++ {
		for value := range 2 {
			bits := strings.Repeat(digits(1, value), (width-1)/8*8)
			expectDecodeError(t, x, packed(digits(16, width)+bits), 1, api.ErrShort)
			if width < 12 {
				expectDecodeError(t, x, packed(tokenText(x, end)+digits(16, 32+width)+bits), 1, api.ErrShort)
				// Beyond number 63, but this is looked at only with the value.
				far := tokenText(x, end, zeros, zeros, zeros) + digits(16, 240+width)
				expectDecodeError(t, x, packed(far+bits), 1, api.ErrShort)
				expectDecodeError(t, x, packed(fill(far+strings.Repeat("1", width))), 1, api.ErrForm)
			}
		}
	}
	// Seven of eight bits are there.
	y := api.Tables{First: chain(8), Rest: chain(0)}
	expectDecodeError(t, y, []byte{0x7f}, 1, api.ErrShort)
	expectDecode(t, y, []byte{0x7f, 0xbf}, []api.Block{{255}})
}

// minus returns the token with the negative number of the same size.
func minus(k api.Token) api.Token {
	k.Value = 1<<k.Width - 1 - k.Value
	return k
}

// wrongTexts returns tokens in digits of which run.Block refuses the last one.
func wrongTexts(x api.Tables) []string {
	high, low := api.Token{Sym: 11, Width: 11, Value: 2047}, api.Token{Sym: 11, Width: 11}
	highest := tokenText(x, high, end)
	out := []string{
		// Number 0 leaves its bounds.
		tokenText(x, api.Token{Sym: 12, Width: 12, Value: 2048}),
		tokenText(x, api.Token{Sym: 12, Width: 12, Value: 2047}),
		tokenText(x, api.Token{Sym: 12, Width: 12, Value: 4095}),
		highest + tokenText(x, one(0)),
		tokenText(x, low, end) + tokenText(x, minus(one(0))),
		tokenText(x, low, end) + tokenText(x, api.Token{Sym: 12, Width: 12, Value: 4095}),
		highest + tokenText(x, end, one(3), end) + tokenText(x, one(0)),
		// Beyond number 63.
		tokenText(x, end, zeros, zeros, zeros, zeros),
		tokenText(x, end, zeros, zeros, zeros, one(15)),
		tokenText(x, append(slices.Repeat([]api.Token{one(0)}, 63), one(1))...),
		tokenText(x, append(slices.Repeat([]api.Token{one(0)}, 49), one(15))...),
		tokenText(x, append(slices.Repeat([]api.Token{one(0)}, 63), zeros)...),
		// Other tokens than those of run.Tokens.
		tokenText(x, end, zeros, end),
		tokenText(x, one(0), one(0), zeros, zeros, end),
		tokenText(x, end, zeros, zeros, zeros, end),
		tokenText(x, end, zeros, zeros, one(14), zeros),
	}
	// Sym modulo 16 is 0, but Sym is neither 0 nor 240.
	for r := 1; r < 15; r++ {
		strange := api.Token{Sym: 16 * r}
		out = append(out,
			tokenText(x, end, strange),
			tokenText(x, end, zeros, zeros, one(0), strange),
			highest+tokenText(x, minus(one(0)), strange))
	}
	return out
}

// Behind a wrong token bits are missing, or are right or wrong.
func TestDecodeWrongTokens(t *testing.T) {
	for _, x := range []api.Tables{both(flat(16)), both(flat(9)), both(short())} {
		for _, text := range wrongTexts(x) {
			for _, behind := range []string{"", digits(8, 0), digits(16, 0), digits(16, 255), strings.Repeat("1", 8), strings.Repeat("1", 16), strings.Repeat("0", 64)} {
				b := packed(fill(text + behind))
				for n := 1; n <= 5; n++ {
					expectDecodeError(t, x, b, n, api.ErrForm)
				}
			}
		}
	}
}

// Of two errors, that of the token that comes first is returned.
func TestDecodeFirstErrorInOrder(t *testing.T) {
	x := both(flat(16))
	// The value is cut off: nothing can follow.
	cutOff := digits(16, 9) + digits(8, 0)
	for _, text := range wrongTexts(x) {
		expectDecodeError(t, x, packed(fill(text+cutOff)), 400, api.ErrForm)
	}
	// The last token of a block is cut off before its tokens could turn out to be others.
	expectDecodeError(t, x, packed(tokenText(x, end, zeros)+digits(8, 0)), 1, api.ErrShort)
	expectDecodeError(t, x, packed(tokenText(x, end, zeros)), 1, api.ErrShort)
	// A token is cut off, and the bytes of the first block would be right.
	expectDecodeError(t, x, packed(tokenText(x, end, end)+digits(8, 0)), 2, api.ErrShort)
	expectDecodeError(t, x, packed(tokenText(x, end, end)+digits(8, 0)), 1, api.ErrForm)
	// A wrong symbol, and no codeword behind it.
	expectDecodeError(t, x, packed(digits(16, 13)), 2, api.ErrForm)
	expectDecodeError(t, x, packed(tokenText(x, end)+digits(16, 12)), 2, api.ErrForm)
	// No codeword, and no bits behind it.
	expectDecodeError(t, x, packed(tokenText(x, end)+digits(16, 256)), 2, api.ErrForm)
	expectDecodeError(t, x, packed(digits(16, 256)), 2, api.ErrForm)
}

// Up to seven ones may remain behind the last block.
func TestDecodeFillBits(t *testing.T) {
	x := api.Tables{First: chain(0), Rest: chain(9, 0)} // 010 for a block of zeros
	for n := range 25 {
		text := strings.Repeat("010", n)
		l := make([]api.Block, n)
		whole := fill(text)
		expectDecode(t, x, packed(whole), l)
		for at := len(text); at < len(whole); at++ {
			wrong := whole[:at] + "0" + whole[at+1:]
			expectDecodeError(t, x, packed(wrong), n, api.ErrForm)
		}
		if len(whole) > len(text) {
			expectDecodeError(t, x, packed(text+strings.Repeat("0", len(whole)-len(text))), n, api.ErrForm)
		}
		for _, more := range []string{"11111111", "00000000", "01111111", "11111110", "1111111111111111"} {
			expectDecodeError(t, x, packed(whole+more), n, api.ErrForm)
		}
	}
}

// expectAsModel fails unless Decode returns what the model returns; it returns the error.
func expectAsModel(t *testing.T, x api.Tables, b []byte, n int) api.Errno {
	t.Helper()
	want, wanted := modelDecode(x, b, n)
	if l, e := Decode(x, b, n); !slices.Equal(l, want) || e != wanted {
		t.Errorf("Decode of %d blocks in %x: got %v and the error %d, want %v and the error %d", n, b, l, e, want, wanted)
	}
	return wanted
}

// The bytes of blocks with one of them changed, removed or repeated.
func TestDecodeChangedBytes(t *testing.T) {
	t.Parallel()
	r := samples.Sequence(14)
	seen := map[api.Errno]int{}
	for _, l := range lists() {
		if len(l) > 10 {
			continue
		}
		for _, x := range severalTables(t, l) {
			b := modelEncode(x, l)
			for range min(len(b), 6) {
				i := r.Below(len(b))
				changed := slices.Clone(b)
				changed[i] ^= 1 << r.Below(8)
				seen[expectAsModel(t, x, changed, len(l))]++
				changed[i] = byte(r.Below(256))
				seen[expectAsModel(t, x, changed, len(l))]++
				seen[expectAsModel(t, x, slices.Delete(slices.Clone(b), i, i+1), len(l))]++
				seen[expectAsModel(t, x, slices.Insert(slices.Clone(b), i, b[i]), len(l))]++
			}
		}
	}
	for _, e := range []api.Errno{api.OK, api.ErrShort, api.ErrForm} {
		if seen[e] == 0 {
			t.Errorf("the error %d has not occurred", e)
		}
	}
}

// All pairs of bytes and many longer texts, with tables of few short codewords.
func TestDecodeAnyBytes(t *testing.T) {
	t.Parallel()
	tables := []api.Tables{
		{First: chain(0, 1), Rest: chain(0, 1, 240)},
		{First: chain(12, 0, 11, 13), Rest: chain(240, 0, 11, 241, 16, 225)},
		{First: chain(1, 2), Rest: chain(1, 17, 2, 0)},
		{First: with([]int{0, 1, 2}, 0, 3), Rest: with([]int{0, 240, 225, 1, 12}, 0, 2, 3)},
	}
	r := samples.Sequence(15)
	for _, x := range tables {
		for n := range 1 << 16 {
			expectAsModel(t, x, []byte{byte(n >> 8), byte(n)}, n%5)
		}
		for range 20000 {
			b := make([]byte, 3+r.Below(20))
			for i := range b {
				b[i] = byte(r.Below(255))
			}
			expectAsModel(t, x, b, 1+r.Below(4))
		}
	}
}

// P2: neither the arguments nor their unused capacity change, and a result belongs to the caller.
func TestDecodeKeepsArguments(t *testing.T) {
	for _, l := range lists() {
		x := bestTables(t, l)
		x.First.Syms, x.Rest.Syms = samples.Roomy(x.First.Syms, -3), samples.Roomy(x.Rest.Syms, -4)
		b := samples.Roomy(modelEncode(x, l), 255)
		first, rest, same := slices.Clone(x.First.Syms[:cap(x.First.Syms)]), slices.Clone(x.Rest.Syms[:cap(x.Rest.Syms)]), slices.Clone(b[:cap(b)])
		p, _ := Decode(x, b, len(l))
		q, _ := Decode(x, b, len(l))
		samples.Overwrite(q, api.Block{77})
		if !slices.Equal(p, l) {
			t.Error("two results share memory")
		}
		samples.Overwrite(p, api.Block{78})
		Decode(x, b[:len(b)+1], len(l))
		Decode(x, b, len(l)+1)
		Decode(api.Tables{First: x.First}, b, len(l))
		Decode(api.Tables{Rest: x.Rest}, b, len(l))
		if !slices.Equal(x.First.Syms[:cap(x.First.Syms)], first) || !slices.Equal(x.Rest.Syms[:cap(x.Rest.Syms)], rest) || !bytes.Equal(b[:cap(b)], same) {
			t.Error("the arguments have changed")
		}
		expectDecode(t, x, b, l)
	}
}

// P2: a failed call leaves nothing behind that a later call could see.
func TestDecodeNoState(t *testing.T) {
	x := both(short())
	l := []api.Block{{5, -2}, {9}}
	b := modelEncode(x, l)
	for _, text := range wrongTexts(x) {
		Decode(x, packed(fill(text)), 3)
		Decode(x, b[:3], 2)
		Decode(both(flat(9)), b, 2)
		expectDecode(t, x, b, l)
		expectDecodeError(t, x, b[:3], 2, api.ErrShort)
	}
}

// P1: no combination of extreme arguments makes a function panic.
func TestNoPanic(t *testing.T) {
	extremes := []int{math.MinInt, -1 << 32, -2048, -1, 0, 1, 15, 16, 255, 256, 2048, 1 << 32, math.MaxInt}
	bytes := [][]byte{nil, {0}, {255}, {255, 0}, {0, 0, 0, 0, 0, 0, 0, 0, 0, 0}, {255, 0, 255, 0, 255, 0}, {0x55, 0xaa, 0x5a}}
	for _, p := range extremes {
		Counts([]api.Block{{p, -p, 63: p}})
		for _, q := range extremes {
			for _, x := range []api.Tables{
				both(with([]int{p, q}, 1, 1)), both(with([]int{0, 1}, p, q)), {First: chain(0, 1), Rest: with([]int{p}, 0, 1, q)}, {First: chain(p), Rest: chain(q)}, {First: with(nil, p, q, p)},
			} {
				Encode(x, []api.Block{{}, {p, q}})
				Encode(x, make([]api.Block, 401))
				for _, b := range bytes {
					Decode(x, b, p)
					Decode(x, b, 2)
				}
			}
		}
	}
}
