package table

import (
	"bytes"
	"math"
	"slices"
	"strconv"
	"strings"
	"testing"

	"mezzotint/api"
)

// counted returns a table with the given numbers of codewords of 1, 2, .. bits and the symbols 7, 14, .. modulo 256.
func counted(counts ...int) api.Table {
	var t api.Table
	copy(t.Counts[:], counts)
	for _, n := range counts {
		for range n {
			t.Syms = append(t.Syms, (7*len(t.Syms)+7)%256)
		}
	}
	return t
}

// with returns a table with these symbols, whatever the counts are.
func with(syms []int, counts ...int) api.Table {
	t := api.Table{Syms: syms}
	copy(t.Counts[:], counts)
	return t
}

// chain returns a table with one codeword of each length, and with more ones of 16 bits.
func chain(more int) api.Table {
	return counted(1, 1, 1, 1, 1, 1, 1, 1, 1, 1, 1, 1, 1, 1, 1, 1+more)
}

// ofLength returns n in the element for codewords of long bits.
func ofLength(long, n int) []int {
	counts := make([]int, api.MaxLong)
	counts[long-1] = n
	return counts
}

// plusOne adds 1 to a text of binary digits; the text becomes longer if the sum does not fit.
func plusOne(s string) string {
	i := strings.LastIndexByte(s, '0')
	if i < 0 {
		return "1" + strings.Repeat("0", len(s))
	}
	return s[:i] + "1" + strings.Repeat("0", len(s)-i-1)
}

// modelWords is the chapter's definition of codewords, in texts of binary digits; false if one is not allowed.
func modelWords(counts [api.MaxLong]int) ([]string, bool) {
	var out []string
	for k, n := range counts {
		long := k + 1
		for range n {
			s := strings.Repeat("0", long)
			if len(out) > 0 {
				s = plusOne(out[len(out)-1])
				s += strings.Repeat("0", max(0, long-len(out[len(out)-1])))
			}
			if len(s) != long || !strings.Contains(s, "0") {
				return nil, false
			}
			out = append(out, s)
		}
	}
	return out, true
}

// modelEncode returns the text of binary digits of the symbols, and the bytes that it fills.
func modelEncode(t api.Table, syms []int) (string, []byte) {
	words, _ := modelWords(t.Counts)
	var text strings.Builder
	for _, s := range syms {
		text.WriteString(words[slices.Index(t.Syms, s)])
	}
	s := text.String()
	var out []byte
	for full := s + "1111111"; len(full) >= 8; full = full[8:] {
		n, err := strconv.ParseUint(full[:8], 2, 8)
		if err != nil {
			panic(err)
		}
		out = append(out, byte(n))
	}
	return s, out
}

// modelDecode is the chapter's definition of Decode for a valid table and a valid n, in texts of binary digits.
func modelDecode(t api.Table, b []byte, n int) ([]int, int, api.Errno) {
	words, _ := modelWords(t.Counts)
	text := ""
	for _, x := range b {
		text += strconv.FormatInt(int64(x)+256, 2)[1:]
	}
	var out []int
	at := 0
	for range n {
		word := ""
		for !slices.Contains(words, word) {
			if len(word) == api.MaxLong {
				return nil, 0, api.ErrForm
			}
			if at+len(word) == len(text) {
				return nil, 0, api.ErrShort
			}
			word = text[at : at+len(word)+1]
		}
		out = append(out, t.Syms[slices.Index(words, word)])
		at += len(word)
	}
	return out, at, api.OK
}

// mixed returns n symbols of the table, the same ones in each run.
func mixed(t api.Table, n int) []int {
	out := make([]int, n)
	state := uint32(n + 1)
	for i := range out {
		state = state*1664525 + 1013904223
		out[i] = t.Syms[int(state>>8)%len(t.Syms)]
	}
	return out
}

func expectCheck(t *testing.T, x api.Table, want api.Errno) {
	t.Helper()
	if e := Check(x); e != want {
		t.Errorf("Check of %v: got %d, want %d", x, e, want)
	}
	if want == api.OK {
		return
	}
	// The other functions return the error of Check before any of their own.
	expectWordsError(t, x, want)
	for _, syms := range [][]int{nil, {1}, {-1}, make([]int, api.MaxFields+1)} {
		expectEncodeError(t, x, syms, want)
	}
	for _, n := range []int{-1, 0, 1, api.MaxFields + 1} {
		expectDecodeError(t, x, nil, n, want)
		expectDecodeError(t, x, []byte{255, 255}, n, want)
	}
}

func expectWords(t *testing.T, x api.Table, want ...api.Word) {
	t.Helper()
	if l, e := Words(x); !slices.Equal(l, want) || e != api.OK {
		t.Errorf("Words of %v: got %v, %d, want %v", x, l, e, want)
	}
}

func expectWordsError(t *testing.T, x api.Table, want api.Errno) {
	t.Helper()
	if l, e := Words(x); l != nil || e != want {
		t.Errorf("Words of %v: got %v, %d, want error %d", x, l, e, want)
	}
}

func expectEncode(t *testing.T, x api.Table, syms []int, want []byte) {
	t.Helper()
	if b, e := Encode(x, syms); !bytes.Equal(b, want) || e != api.OK {
		t.Errorf("Encode of %d symbols by %v: got %x, %d, want %x", len(syms), x, b, e, want)
	}
}

func expectEncodeError(t *testing.T, x api.Table, syms []int, want api.Errno) {
	t.Helper()
	if b, e := Encode(x, syms); b != nil || e != want {
		t.Errorf("Encode of %d symbols by %v: got %x, %d, want error %d", len(syms), x, b, e, want)
	}
}

func expectDecode(t *testing.T, x api.Table, b []byte, want []int, bits int) {
	t.Helper()
	if l, n, e := Decode(x, b, len(want)); !slices.Equal(l, want) || n != bits || e != api.OK {
		t.Errorf("Decode of %d bytes by %v: got %v, %d, %d, want %v, %d", len(b), x, l, n, e, want, bits)
	}
}

func expectDecodeError(t *testing.T, x api.Table, b []byte, n int, want api.Errno) {
	t.Helper()
	if l, bits, e := Decode(x, b, n); l != nil || bits != 0 || e != want {
		t.Errorf("Decode of %d symbols in %x by %v: got %v, %d, %d, want error %d", n, b, x, l, bits, e, want)
	}
}

func TestCheckOrdinary(t *testing.T) {
	expectCheck(t, with([]int{9}, 1), api.OK)
	expectCheck(t, with([]int{9, 4}, 1, 1), api.OK)
	expectCheck(t, with([]int{9, 4, 200}, 1, 1, 1), api.OK)
	expectCheck(t, with([]int{3, 2, 1}, 0, 3), api.OK)
	expectCheck(t, with([]int{0, 255}, 1, 0, 0, 1), api.OK)
	expectCheck(t, counted(0, 2, 2, 3), api.OK)
}

func TestCheckEmpty(t *testing.T) {
	expectCheck(t, api.Table{}, api.OK)
	expectCheck(t, api.Table{Syms: []int{}}, api.OK)
}

func TestCheckNegativeCounts(t *testing.T) {
	for long := 1; long <= api.MaxLong; long++ {
		for _, n := range []int{-1, -256, math.MinInt} {
			expectCheck(t, with(nil, ofLength(long, n)...), api.ErrForm)
		}
	}
	// These sums do match the symbols.
	expectCheck(t, with(nil, 1, -1), api.ErrForm)
	expectCheck(t, with([]int{5}, -1, 2), api.ErrForm)
	expectCheck(t, with([]int{5}, 2, -1), api.ErrForm)
	expectCheck(t, with([]int{5}, 1, 1, -1), api.ErrForm)
	expectCheck(t, with(nil, math.MinInt, math.MinInt), api.ErrForm)
}

func TestCheckSumDiffers(t *testing.T) {
	expectCheck(t, with(nil, 1), api.ErrForm)
	expectCheck(t, with([]int{5}), api.ErrForm)
	expectCheck(t, with([]int{5}, 1, 1), api.ErrForm)
	expectCheck(t, with([]int{5, 6, 7}, 1, 1), api.ErrForm)
	expectCheck(t, with([]int{5, 6}, 0, 0, 3), api.ErrForm)
	for long := 1; long <= api.MaxLong; long++ {
		expectCheck(t, with(nil, ofLength(long, 1)...), api.ErrForm)
		expectCheck(t, with([]int{5}, ofLength(long, 1)...), api.OK)
		expectCheck(t, with([]int{5, 6}, ofLength(long, 1)...), api.ErrForm)
	}
}

func TestCheckLargeSums(t *testing.T) {
	expectCheck(t, counted(ofLength(9, 256)...), api.OK)
	expectCheck(t, counted(ofLength(16, 256)...), api.OK)
	expectCheck(t, counted(ofLength(9, 257)...), api.ErrForm)
	expectCheck(t, counted(ofLength(16, 257)...), api.ErrForm)
	expectCheck(t, counted(0, 0, 0, 0, 0, 0, 0, 0, 0, 128, 128, 1), api.ErrForm)
	expectCheck(t, counted(ofLength(16, 1000)...), api.ErrForm)
	// ErrForm because of the sum, although symbols are not in [0, 255].
	expectCheck(t, with(slices.Repeat([]int{-1}, 257), ofLength(9, 257)...), api.ErrForm)
	expectCheck(t, with(slices.Repeat([]int{-1}, 257), 0, 0, 0, 0, 0, 0, 0, 0, 0, 128, 128, 1), api.ErrForm)
	expectCheck(t, with(slices.Repeat([]int{-1}, 256), 0, 0, 0, 0, 0, 0, 0, 0, 0, 128, 127, 1), api.ErrArg)
}

func TestCheckHugeCounts(t *testing.T) {
	for long := 1; long <= api.MaxLong; long++ {
		for _, n := range []int{257, 1 << 32, 1 << 62, math.MaxInt} {
			expectCheck(t, with(nil, ofLength(long, n)...), api.ErrForm)
			expectCheck(t, with([]int{1}, ofLength(long, n)...), api.ErrForm)
		}
	}
	// The sums of these counts overflow to the number of symbols.
	expectCheck(t, with(nil, math.MaxInt, math.MaxInt, 2), api.ErrForm)
	expectCheck(t, with([]int{3}, math.MaxInt, math.MaxInt, 3), api.ErrForm)
	expectCheck(t, with(nil, 1<<62, 1<<62, 1<<62, 1<<62), api.ErrForm)
	expectCheck(t, with([]int{3}, 1, 1<<62, 1<<62, 1<<62, 1<<62), api.ErrForm)
}

func TestCheckSymbols(t *testing.T) {
	for s := 0; s <= 255; s++ {
		expectCheck(t, with([]int{s}, 1), api.OK)
	}
	for _, s := range []int{-1, 256, 257, -256, 1 << 32, math.MinInt, math.MaxInt} {
		expectCheck(t, with([]int{s}, 1), api.ErrArg)
		expectCheck(t, with([]int{s, 2, 3}, 0, 3), api.ErrArg)
		expectCheck(t, with([]int{2, s, 3}, 0, 3), api.ErrArg)
		expectCheck(t, with([]int{2, 3, s}, 0, 3), api.ErrArg)
	}
}

func TestCheckRepeatedSymbols(t *testing.T) {
	expectCheck(t, with([]int{1, 1}, 1, 1), api.ErrForm)
	expectCheck(t, with([]int{0, 0}, 0, 2), api.ErrForm)
	expectCheck(t, with([]int{255, 3, 255}, 1, 0, 2), api.ErrForm)
	expectCheck(t, with([]int{3, 255, 255}, 0, 3), api.ErrForm)
	x := counted(ofLength(9, 256)...)
	x.Syms[255] = x.Syms[0]
	expectCheck(t, x, api.ErrForm)
}

func TestCheckOnesOnly(t *testing.T) {
	for long := 1; long <= 8; long++ {
		all := 1 << long
		expectCheck(t, counted(ofLength(long, all-1)...), api.OK)
		expectCheck(t, counted(ofLength(long, all)...), api.ErrForm)
	}
	expectCheck(t, counted(1, 2), api.ErrForm)
	expectCheck(t, counted(1, 1, 2), api.ErrForm)
	expectCheck(t, chain(0), api.OK)
	expectCheck(t, chain(1), api.ErrForm)
}

func TestCheckDoesNotFit(t *testing.T) {
	expectCheck(t, counted(3), api.ErrForm)
	expectCheck(t, counted(2, 1), api.ErrForm)
	expectCheck(t, counted(2, 0, 0, 0, 0, 0, 0, 0, 0, 0, 0, 0, 0, 0, 0, 1), api.ErrForm)
	expectCheck(t, counted(1, 3), api.ErrForm)
	expectCheck(t, counted(1, 2, 1), api.ErrForm)
	expectCheck(t, counted(256), api.ErrForm)
	expectCheck(t, counted(0, 0, 0, 0, 0, 0, 0, 256), api.ErrForm)
	expectCheck(t, chain(2), api.ErrForm)
	expectCheck(t, chain(200), api.ErrForm)
}

func TestCheckOrder(t *testing.T) {
	// Counts before symbols.
	expectCheck(t, with([]int{256}, 1, -1, 1), api.ErrForm)
	expectCheck(t, with([]int{256}, 1, 1), api.ErrForm)
	expectCheck(t, with([]int{-1}), api.ErrForm)
	// Symbols before repetition and codewords, wherever they stand.
	expectCheck(t, with([]int{1, 1, 256}, 0, 3), api.ErrArg)
	expectCheck(t, with([]int{-1, 1, 1}, 0, 3), api.ErrArg)
	expectCheck(t, with([]int{-1, -1}, 1, 1), api.ErrArg)
	expectCheck(t, with([]int{1, 256}, 2), api.ErrArg)
	expectCheck(t, with([]int{1, 2, 256}, 3), api.ErrArg)
}

// The unused capacity of an argument is not part of it.
func TestCheckIgnoresCapacity(t *testing.T) {
	expectCheck(t, with([]int{1, 2}[:1], 1, 1), api.ErrForm)
	expectCheck(t, with([]int{1, 256}[:1], 1), api.OK)
	expectCheck(t, with([]int{1, 1}[:1], 1), api.OK)
}

func TestWordsExample(t *testing.T) {
	expectWords(t, with([]int{5, 6}, 1, 1), api.Word{Sym: 5, Long: 1, Code: 0}, api.Word{Sym: 6, Long: 2, Code: 2})
}

func TestWordsOrdinary(t *testing.T) {
	expectWords(t, with([]int{9}, 1), api.Word{Sym: 9, Long: 1, Code: 0})
	expectWords(t, with([]int{9}, 0, 0, 1), api.Word{Sym: 9, Long: 3, Code: 0})
	expectWords(t, with([]int{9, 4, 200, 0, 1}, 0, 2, 1, 2),
		api.Word{Sym: 9, Long: 2, Code: 0}, api.Word{Sym: 4, Long: 2, Code: 1}, api.Word{Sym: 200, Long: 3, Code: 4},
		api.Word{Sym: 0, Long: 4, Code: 10}, api.Word{Sym: 1, Long: 4, Code: 11})
	expectWords(t, with([]int{9, 4}, 1, 0, 0, 1), api.Word{Sym: 9, Long: 1, Code: 0}, api.Word{Sym: 4, Long: 4, Code: 8})
}

func TestWordsEmpty(t *testing.T) {
	expectWords(t, api.Table{})
	expectWords(t, api.Table{Syms: []int{}})
}

func TestWordsLong(t *testing.T) {
	l, e := Words(chain(0))
	if len(l) != 16 || e != api.OK {
		t.Fatal(l, e)
	}
	for i, w := range l {
		if w.Sym != 7*i+7 || w.Long != i+1 || w.Code != 1<<(i+1)-2 {
			t.Error(i, w)
		}
	}
	expectWords(t, with([]int{3}, ofLength(16, 1)...), api.Word{Sym: 3, Long: 16, Code: 0})
	x := counted(ofLength(8, 255)...)
	x.Counts[15]++
	x.Syms = append(x.Syms, 0)
	if l, e := Words(x); e != api.OK || l[254].Code != 254 || l[255] != (api.Word{Sym: 0, Long: 16, Code: 0xff00}) {
		t.Error(l, e)
	}
	if l, e := Words(counted(ofLength(9, 256)...)); e != api.OK || len(l) != 256 || l[255].Code != 255 {
		t.Error(l, e)
	}
}

// eachTable calls f with tables of all the small counts of four successive lengths, valid or not.
func eachTable(f func(x api.Table)) {
	for first := 0; first <= 12; first += 4 {
		for a := range 4 {
			for b := range 5 {
				for c := range 8 {
					for d := range 8 {
						counts := make([]int, api.MaxLong)
						copy(counts[first:], []int{a, b, c, d})
						f(counted(counts...))
						if first > 0 {
							counts[0] = 1
							f(counted(counts...))
						}
					}
				}
			}
		}
	}
}

func TestWordsAgainstModel(t *testing.T) {
	valid, invalid := 0, 0
	eachTable(func(x api.Table) {
		words, ok := modelWords(x.Counts)
		if !ok {
			invalid++
			expectCheck(t, x, api.ErrForm)
			return
		}
		valid++
		expectCheck(t, x, api.OK)
		var want []api.Word
		for i, s := range words {
			n, _ := strconv.ParseInt(s, 2, 64)
			want = append(want, api.Word{Sym: x.Syms[i], Long: len(s), Code: int(n)})
		}
		expectWords(t, x, want...)
	})
	if valid < 100 || invalid < 100 {
		t.Error("too few tables", valid, invalid)
	}
}

// Codewords and Symbols hold what Words returns, and nothing beside an error.
func TestMapsAgainstWords(t *testing.T) {
	eachTable(func(x api.Table) {
		words, want := Words(x)
		codewords, e1 := Codewords(x)
		symbols, e2 := Symbols(x)
		if e1 != want || e2 != want || len(codewords) != len(words) || len(symbols) != len(words) {
			t.Fatalf("%v: got %d codewords, %d symbols and the errors %d and %d", x, len(codewords), len(symbols), e1, e2)
		}
		for _, w := range words {
			f := api.Field{Width: w.Long, Value: w.Code}
			if s, ok := symbols[f]; codewords[w.Sym] != f || s != w.Sym || !ok {
				t.Errorf("%v: got %v and %d for %v", x, codewords[w.Sym], s, w)
			}
		}
	})
}

// P2: a map belongs to the caller.
func TestMapsAreNew(t *testing.T) {
	x := with([]int{9, 4}, 1, 1)
	codewords, _ := Codewords(x)
	symbols, _ := Symbols(x)
	clear(codewords)
	clear(symbols)
	codewords, _ = Codewords(x)
	symbols, _ = Symbols(x)
	if codewords[4] != (api.Field{Width: 2, Value: 2}) || symbols[api.Field{Width: 2, Value: 2}] != 4 {
		t.Error(codewords, symbols)
	}
}

func TestEncodeOrdinary(t *testing.T) {
	x := with([]int{9, 4, 200}, 1, 1, 1)
	expectEncode(t, x, []int{200, 9, 4}, []byte{0xcb})
	expectEncode(t, x, []int{9}, []byte{0x7f})
	expectEncode(t, x, []int{4}, []byte{0xbf})
	expectEncode(t, x, []int{9, 9, 9, 9, 9, 9, 9, 9}, []byte{0})
	expectEncode(t, x, []int{9, 9, 9, 9, 9, 9, 9, 4}, []byte{1, 0x7f})
}

func TestEncodeNothing(t *testing.T) {
	expectEncode(t, counted(1, 1), nil, nil)
	expectEncode(t, counted(1, 1), []int{}, nil)
	expectEncode(t, api.Table{}, nil, nil)
	expectEncodeError(t, api.Table{}, []int{0}, api.ErrNone)
}

func TestEncodeLongWords(t *testing.T) {
	expectEncode(t, with([]int{3}, ofLength(16, 1)...), []int{3, 3}, []byte{0, 0, 0, 0})
	expectEncode(t, chain(0), []int{112}, []byte{0xff, 0xfe})
	expectEncode(t, chain(0), []int{7, 112, 7}, []byte{0x7f, 0xff, 0x3f})
}

func TestEncodeNoCodeword(t *testing.T) {
	x := with([]int{0, 4, 255}, 0, 3)
	for _, s := range []int{1, 3, 5, 254, -1, -4, 256, 260, 4 + 1<<32, math.MinInt, math.MaxInt} {
		expectEncodeError(t, x, []int{s}, api.ErrNone)
		expectEncodeError(t, x, []int{s, 4, 0}, api.ErrNone)
		expectEncodeError(t, x, []int{4, s, 0}, api.ErrNone)
		expectEncodeError(t, x, []int{4, 0, s}, api.ErrNone)
	}
}

func TestEncodeManySymbols(t *testing.T) {
	x := chain(0)
	l := mixed(x, api.MaxFields)
	_, want := modelEncode(x, l)
	expectEncode(t, x, l, want)
	l[api.MaxFields-1] = 1
	expectEncodeError(t, x, l, api.ErrNone)

	expectEncodeError(t, x, mixed(x, api.MaxFields+1), api.ErrLarge)
	expectEncodeError(t, x, make([]int, api.MaxFields+1), api.ErrLarge)
	expectEncodeError(t, api.Table{}, make([]int, api.MaxFields+1), api.ErrLarge)
	expectEncodeError(t, x, slices.Repeat([]int{7}, 10*api.MaxFields), api.ErrLarge)
}

func TestDecodeOrdinary(t *testing.T) {
	x := with([]int{9, 4, 200}, 1, 1, 1)
	expectDecode(t, x, []byte{0xcb}, []int{200, 9, 4}, 6)
	expectDecode(t, x, []byte{0xcb}, []int{200, 9}, 4)
	expectDecode(t, x, []byte{0xcb, 0x12}, []int{200}, 3)
	expectDecode(t, x, []byte{1, 0x7f}, []int{9, 9, 9, 9, 9, 9, 9, 4}, 9)
}

func TestDecodeExample(t *testing.T) {
	x := with([]int{5, 6}, 1, 1)
	expectDecode(t, x, []byte{0x80}, []int{6}, 2)
	expectDecode(t, x, []byte{0xaa}, []int{6, 6, 6, 6}, 8)
	expectDecodeError(t, x, []byte{0xc0, 0}, 1, api.ErrForm)
}

func TestDecodeNothing(t *testing.T) {
	for _, b := range [][]byte{nil, {}, {255}, {255, 255, 255}} {
		expectDecode(t, counted(1, 1), b, nil, 0)
		expectDecode(t, api.Table{}, b, nil, 0)
	}
}

func TestDecodeNumberBounds(t *testing.T) {
	x := counted(1, 1)
	b := make([]byte, api.MaxFields)
	for _, n := range []int{-1, -2, api.MaxFields + 1, 1 << 32, math.MinInt, math.MaxInt} {
		expectDecodeError(t, x, b, n, api.ErrArg)
		expectDecodeError(t, x, nil, n, api.ErrArg)
		expectDecodeError(t, x, []byte{255, 255}, n, api.ErrArg)
		expectDecodeError(t, api.Table{}, nil, n, api.ErrArg)
	}
	all := slices.Repeat([]int{7}, api.MaxFields)
	expectDecode(t, x, b, all, api.MaxFields)
	expectDecode(t, x, b[:api.MaxFields/8], all, api.MaxFields)
	expectDecodeError(t, x, b[:api.MaxFields/8-1], api.MaxFields, api.ErrShort)
}

func TestDecodeShort(t *testing.T) {
	x := with([]int{9, 4, 200}, 1, 1, 1)
	expectDecodeError(t, x, nil, 1, api.ErrShort)
	expectDecodeError(t, x, []byte{0}, 9, api.ErrShort)
	expectDecodeError(t, x, []byte{0xcb}, 4, api.ErrShort)
	expectDecodeError(t, x, []byte{1}, 8, api.ErrShort)
	expectDecodeError(t, x, []byte{255}, 1, api.ErrShort)
	// One bit and then 15 bits that are no codeword.
	expectDecodeError(t, x, []byte{0x7f, 255}, 2, api.ErrShort)
	expectDecodeError(t, api.Table{}, nil, 1, api.ErrShort)
	expectDecodeError(t, api.Table{}, []byte{0}, 1, api.ErrShort)
	one := with([]int{3}, ofLength(16, 1)...)
	expectDecodeError(t, one, []byte{0}, 1, api.ErrShort)
	expectDecodeError(t, one, []byte{0, 0, 0}, 2, api.ErrShort)
}

func TestDecodeForm(t *testing.T) {
	x := with([]int{9, 4, 200}, 1, 1, 1)
	expectDecodeError(t, x, []byte{255, 255}, 1, api.ErrForm)
	expectDecodeError(t, x, []byte{255, 0}, 1, api.ErrForm)
	expectDecodeError(t, x, []byte{0x7f, 255, 0x80}, 2, api.ErrForm)
	expectDecodeError(t, x, []byte{0xe0, 0, 0}, 5, api.ErrForm)
	expectDecodeError(t, api.Table{}, []byte{0, 0}, 1, api.ErrForm)
	expectDecodeError(t, chain(0), []byte{255, 255}, 1, api.ErrForm)
	one := with([]int{3}, ofLength(16, 1)...)
	expectDecodeError(t, one, []byte{0, 1}, 1, api.ErrForm)
	expectDecodeError(t, one, []byte{0, 0, 0, 1}, 2, api.ErrForm)
}

// The first error in the order of the bits is the one that is returned.
func TestDecodeErrorOrder(t *testing.T) {
	x := with([]int{9}, 0, 1)
	expectDecodeError(t, x, []byte{0x0f, 0xff, 0xf0}, 20, api.ErrForm)
	expectDecodeError(t, x, []byte{0x0f, 0xff}, 20, api.ErrShort)
	expectDecode(t, x, []byte{0x0f, 0xff, 0xf0}, []int{9, 9}, 4)
}

func TestDecodeLongWords(t *testing.T) {
	expectDecode(t, with([]int{3}, ofLength(16, 1)...), []byte{0, 0, 0, 0}, []int{3, 3}, 32)
	expectDecode(t, chain(0), []byte{255, 254}, []int{112}, 16)
	expectDecode(t, chain(0), []byte{0x7f, 0xff, 0x3f}, []int{7, 112, 7}, 18)
	x := counted(ofLength(16, 256)...)
	expectDecode(t, x, []byte{0, 255, 0, 254}, []int{x.Syms[255], x.Syms[254]}, 32)
}

// The unused capacity of an argument is not part of it.
func TestDecodeIgnoresCapacity(t *testing.T) {
	expectDecodeError(t, counted(1, 1), make([]byte, 4)[:1], 9, api.ErrShort)
	expectEncode(t, counted(1, 1), []int{7, 1}[:1], []byte{0x7f})
}

func TestDecodeAgainstModel(t *testing.T) {
	tables := []api.Table{{}, counted(1), counted(1, 1), counted(0, 3), counted(0, 1, 4, 1), counted(0, 0, 1, 0, 0, 0, 1, 3)}
	for _, x := range tables {
		for i := range 1 << 16 {
			b := []byte{byte(i >> 8), byte(i), byte(i >> 4)}[:1+i%3]
			n := i % 5
			l, bits, e := Decode(x, b, n)
			want, wantBits, wantErr := modelDecode(x, b, n)
			if !slices.Equal(l, want) || bits != wantBits || e != wantErr {
				t.Fatalf("Decode of %d symbols in %x by %v: got %v, %d, %d, want %v, %d, %d", n, b, x, l, bits, e, want, wantBits, wantErr)
			}
		}
	}
}

func TestDecodeRestoresEncode(t *testing.T) {
	eachTable(func(x api.Table) {
		if len(x.Syms) == 0 || Check(x) != api.OK {
			return
		}
		for _, n := range []int{1, 2, 30} {
			l := mixed(x, n)
			text, want := modelEncode(x, l)
			expectEncode(t, x, l, want)
			expectDecode(t, x, want, l, len(text))
			expectDecode(t, x, append(want, 0, 1), l, len(text))
		}
	})
	for _, x := range []api.Table{counted(1), chain(0), counted(ofLength(9, 256)...), counted(ofLength(16, 256)...)} {
		l := mixed(x, api.MaxFields)
		text, want := modelEncode(x, l)
		expectEncode(t, x, l, want)
		expectDecode(t, x, want, l, len(text))
	}
}

// P2: neither the elements nor the unused capacity of an argument change.
func TestArgumentsUnchanged(t *testing.T) {
	for _, good := range []bool{true, false} {
		x := chain(0)
		syms := append(mixed(x, 50), 1, 2, 3)
		_, b := modelEncode(x, syms[:50])
		b = append(b, 9, 8, 7)
		if !good {
			x.Counts[15]++
		}
		x.Syms = append(x.Syms, 1, 2, 3)
		all := x.Syms
		sameAll, sameSyms, sameBytes := slices.Clone(all), slices.Clone(syms), slices.Clone(b)
		x.Syms = x.Syms[:16]
		Check(x)
		Words(x)
		Encode(x, syms[:50])
		Encode(x, syms[:51])
		Decode(x, b[:len(b)-3], 50)
		Decode(x, b[:3], 50)
		if !slices.Equal(all, sameAll) || !slices.Equal(syms, sameSyms) || !bytes.Equal(b, sameBytes) {
			t.Error("an argument has changed; valid table:", good)
		}
	}
}

// P2: results, with their capacity, belong to the caller: neither changing them nor changing an argument shows elsewhere.
func TestResultsAreNew(t *testing.T) {
	x := chain(0)
	same := chain(0)
	syms := mixed(x, 50)
	sameSyms := slices.Clone(syms)
	text, sameBytes := modelEncode(x, syms)

	words, _ := Words(x)
	sameWords := slices.Clone(words)
	b, _ := Encode(x, syms)
	l, _, _ := Decode(x, b, len(syms))

	words2, _ := Words(x)
	b2, _ := Encode(x, syms)
	l2, _, _ := Decode(x, b, len(syms))
	overwrite(words2, api.Word{Sym: 1, Long: 1, Code: 1})
	overwrite(b2, 0x55)
	overwrite(l2, -7)
	if !slices.Equal(x.Syms, same.Syms) || !slices.Equal(syms, sameSyms) {
		t.Error("a result shares memory with an argument")
	}
	if !slices.Equal(words, sameWords) || !bytes.Equal(b, sameBytes) || !slices.Equal(l, sameSyms) {
		t.Error("results share memory")
	}
	overwrite(x.Syms, 99)
	overwrite(syms, 98)
	if !slices.Equal(words, sameWords) || !bytes.Equal(b, sameBytes) || !slices.Equal(l, sameSyms) {
		t.Error("an argument is kept")
	}
	overwrite(b, 0)
	if !slices.Equal(l, sameSyms) {
		t.Error("Decode keeps its bytes")
	}
	expectWords(t, same, sameWords...)
	expectEncode(t, same, sameSyms, sameBytes)
	expectDecode(t, same, sameBytes, sameSyms, len(text))
}

// overwrite sets all elements of s, including those of its unused capacity.
func overwrite[T any](s []T, x T) {
	s = s[:cap(s)]
	for i := range s {
		s[i] = x
	}
}

// P2: a call leaves nothing behind that a later call could see.
func TestNoStateBetweenCalls(t *testing.T) {
	x, y := with([]int{9, 4, 200}, 1, 1, 1), with([]int{4, 200}, 0, 2)
	for range 2 {
		expectEncode(t, x, []int{200, 9, 4}, []byte{0xcb})
		expectEncodeError(t, y, []int{200, 9, 4}, api.ErrNone)
		expectEncode(t, y, []int{200, 4}, []byte{0x4f})
		expectDecode(t, x, []byte{0xcb}, []int{200, 9, 4}, 6)
		expectDecodeError(t, y, []byte{0xcb, 0xff}, 1, api.ErrForm)
		expectDecode(t, y, []byte{0x4f}, []int{200, 4}, 4)
	}
}

// P1: no combination of extreme numbers makes a function panic.
func TestNoPanic(t *testing.T) {
	extremes := []int{math.MinInt, math.MinInt + 1, -257, -1, 0, 1, 2, 255, 256, 257, math.MaxInt - 1, math.MaxInt}
	for _, p := range extremes {
		for _, q := range extremes {
			for _, r := range extremes {
				for n := range 4 {
					x := with([]int{r, 0, q}[:min(n, 3)], p, q)
					x.Counts[15] = r
					Check(x)
					Words(x)
					Encode(x, []int{p, q, r})
					Decode(x, make([]byte, n), r)
				}
			}
		}
	}
}
