package seg

import (
	"bytes"
	"slices"
	"strconv"
	"strings"
	"testing"

	"mezzotint/api"
	"mezzotint/best"
	"mezzotint/run"
	"mezzotint/samples"
	"mezzotint/table"
	"mezzotint/zig"
)

var (
	end   = api.Token{}
	zeros = api.Token{Sym: 240}
)

// one is a token of r zeros and the number 1.
func one(r int) api.Token {
	return api.Token{Sym: 16*r + 1, Width: 1, Value: 1}
}

// The samples that these tests use, by short names.
var (
	with        = samples.Table
	chain       = samples.Chain
	flat        = samples.Flat
	short       = samples.Short
	both        = samples.Both
	wrongTables = samples.WrongTables()
)

// bestTables returns the tables of least cost for the blocks.
func bestTables(t *testing.T, l []api.Block) api.Tables {
	t.Helper()
	first, rest, e := Counts(l)
	if e != api.OK {
		t.Fatalf("Counts of %d blocks: got the error %d", len(l), e)
	}
	a, e1 := best.Make(first)
	b, e2 := best.Make(rest)
	if e1 != api.OK || e2 != api.OK {
		t.Fatalf("best.Make: got the errors %d and %d", e1, e2)
	}
	return api.Tables{First: a, Rest: b}
}

// digits returns n in width binary digits.
func digits(width, n int) string {
	if width == 0 {
		return ""
	}
	return strconv.FormatInt(int64(n+1<<width), 2)[1:]
}

// wordTexts returns the codewords of a table in binary digits.
func wordTexts(x api.Table) map[int]string {
	words, e := table.Words(x)
	if e != api.OK {
		panic("no table")
	}
	m := map[int]string{}
	for _, w := range words {
		m[w.Sym] = digits(w.Long, w.Code)
	}
	return m
}

// tokenText returns the digits of the tokens of one block, whatever these are.
func tokenText(x api.Tables, l ...api.Token) string {
	var out strings.Builder
	words := wordTexts(x.First)
	for i, k := range l {
		if i == 1 {
			words = wordTexts(x.Rest)
		}
		word, found := words[k.Sym]
		if !found {
			panic("no codeword")
		}
		out.WriteString(word + digits(k.Width, k.Value))
	}
	return out.String()
}

// fill returns the digits with ones behind them up to the end of a byte.
func fill(text string) string {
	return text + strings.Repeat("1", (8-len(text)%8)%8)
}

// packed returns the digits as stuffed bytes; they must end at the end of a byte.
func packed(text string) []byte {
	var out []byte
	for ; len(text) > 0; text = text[8:] {
		n, err := strconv.ParseUint(text[:8], 2, 8)
		if err != nil {
			panic(err)
		}
		out = append(out, byte(n))
	}
	return bytes.ReplaceAll(out, []byte{255}, []byte{255, 0})
}

// modelEncode is Encode for valid blocks all of whose symbols have codewords, in binary digits.
func modelEncode(x api.Tables, l []api.Block) []byte {
	first, rest := wordTexts(x.First), wordTexts(x.Rest)
	var out strings.Builder
	for i, b := range l {
		before := 0
		if i > 0 {
			before = l[i-1][0]
		}
		tokens, _ := run.Tokens(before, b)
		out.WriteString(first[tokens[0].Sym] + digits(tokens[0].Width, tokens[0].Value))
		for _, k := range tokens[1:] {
			out.WriteString(rest[k.Sym] + digits(k.Width, k.Value))
		}
	}
	return packed(fill(out.String()))
}

// modelReader reads binary digits.
type modelReader struct {
	text        string
	first, rest map[string]int
}

func newModelReader(x api.Tables, b []byte) (*modelReader, bool) {
	r := &modelReader{first: map[string]int{}, rest: map[string]int{}}
	for s, word := range wordTexts(x.First) {
		r.first[word] = s
	}
	for s, word := range wordTexts(x.Rest) {
		r.rest[word] = s
	}
	// Without the right pairs, no byte 255 may be left.
	if bytes.IndexByte(bytes.ReplaceAll(b, []byte{255, 0}, nil), 255) >= 0 {
		return nil, false
	}
	var text strings.Builder
	for _, x := range bytes.ReplaceAll(b, []byte{255, 0}, []byte{255}) {
		text.WriteString(digits(8, int(x)))
	}
	r.text = text.String()
	return r, true
}

// token reads a token up to its value.
func (r *modelReader) token(symbols map[string]int, modulus, limit int) (api.Token, api.Errno) {
	for long := 1; long <= 16; long++ {
		if long > len(r.text) {
			return api.Token{}, api.ErrShort
		}
		s, found := symbols[r.text[:long]]
		if !found {
			continue
		}
		r.text = r.text[long:]
		width := s % modulus
		if width > limit {
			return api.Token{}, api.ErrForm
		}
		if width > len(r.text) {
			return api.Token{}, api.ErrShort
		}
		value, _ := strconv.ParseInt("0"+r.text[:width], 2, 64)
		r.text = r.text[width:]
		return api.Token{Sym: s, Width: width, Value: int(value)}, api.OK
	}
	return api.Token{}, api.ErrForm
}

// modelNumber is the number with a size and value bits.
func modelNumber(k api.Token) int {
	text := digits(k.Width, k.Value)
	if strings.HasPrefix(text, "0") {
		n, _ := strconv.ParseInt(strings.NewReplacer("0", "1", "1", "0").Replace(text), 2, 64)
		return -int(n)
	}
	return k.Value
}

// block reads the tokens of a block with a growing list of its numbers.
func (r *modelReader) block(before int) (api.Block, api.Errno) {
	k, e := r.token(r.first, 256, 12)
	if e != api.OK {
		return api.Block{}, e
	}
	tokens, numbers := []api.Token{k}, []int{before + modelNumber(k)}
	if numbers[0] < -2047 || numbers[0] > 2047 {
		return api.Block{}, api.ErrForm
	}
	for len(numbers) < 64 {
		k, e := r.token(r.rest, 16, 11)
		if e != api.OK {
			return api.Block{}, e
		}
		tokens = append(tokens, k)
		if k.Sym == 0 {
			break
		}
		numbers = append(append(numbers, make([]int, k.Sym/16)...), modelNumber(k))
		if len(numbers) > 64 || k.Width == 0 && k.Sym != 240 {
			return api.Block{}, api.ErrForm
		}
	}
	var b api.Block
	copy(b[:], numbers)
	b = zig.From(b)
	if right, _ := run.Tokens(before, b); !slices.Equal(right, tokens) {
		return api.Block{}, api.ErrForm
	}
	return b, api.OK
}

// modelDecode is Decode for valid tables and a valid n, in binary digits.
func modelDecode(x api.Tables, b []byte, n int) ([]api.Block, api.Errno) {
	r, plain := newModelReader(x, b)
	if !plain {
		return nil, api.ErrForm
	}
	var out []api.Block
	before := 0
	for range n {
		block, e := r.block(before)
		if e != api.OK {
			return nil, e
		}
		out = append(out, block)
		before = block[0]
	}
	if !strings.HasPrefix("1111111", r.text) {
		return nil, api.ErrForm
	}
	return out, api.OK
}

// lists returns lists of few and of many blocks, with few and with many numbers that are not 0.
func lists() [][]api.Block {
	r := samples.Sequence(3)
	out := [][]api.Block{nil, {{}}, {{2047}, {-2047}, {2047}}, {{}, {}, {}, {}}, r.Full(1), r.Full(3), r.Blocks(400, 60)}
	for k := range 60 {
		out = append(out, r.Blocks(1+k%7, 1+k*k%71))
	}
	return out
}

func expectEncode(t *testing.T, x api.Tables, l []api.Block, want []byte) {
	t.Helper()
	if b, e := Encode(x, l); !bytes.Equal(b, want) || e != api.OK {
		t.Errorf("Encode of %d blocks: got %x and the error %d, want %x", len(l), b, e, want)
	}
}

func expectEncodeError(t *testing.T, x api.Tables, l []api.Block, want api.Errno) {
	t.Helper()
	if b, e := Encode(x, l); len(b) != 0 || e != want {
		t.Errorf("Encode of %d blocks: got %x and the error %d, want the error %d", len(l), b, e, want)
	}
}

func expectDecode(t *testing.T, x api.Tables, b []byte, want []api.Block) {
	t.Helper()
	if l, e := Decode(x, b, len(want)); !slices.Equal(l, want) || e != api.OK {
		t.Errorf("Decode of %x: got %v and the error %d, want %v", b, l, e, want)
	}
}

func expectDecodeError(t *testing.T, x api.Tables, b []byte, n int, want api.Errno) {
	t.Helper()
	if l, e := Decode(x, b, n); len(l) != 0 || e != want {
		t.Errorf("Decode of %d blocks in %x: got %v and the error %d, want the error %d", n, b, l, e, want)
	}
}
