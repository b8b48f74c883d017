package seg

import (
	"mezzotint/api"
	"mezzotint/bits"
	"mezzotint/run"
)

const (
	step         = 16 // the size of a token after the first one is Sym modulo step
	maxFirstSize = 12 // of a difference
	maxRestSize  = 11 // of a number
)

// bitReader reads numbers from data, beginning at bit at.
type bitReader struct {
	data []byte
	at   int
}

// take returns the next number of width bits.
func (r *bitReader) take(width int) (int, api.Errno) {
	l, _, e := bits.Read(r.data[r.at/8:], []int{r.at % 8, width})
	if e != api.OK {
		return 0, e
	}
	r.at += width
	return l[1], api.OK
}

// onlyFillLeft tells whether no more is left than the ones that fill the last byte.
func (r *bitReader) onlyFillLeft() bool {
	left := 8*len(r.data) - r.at
	if left >= 8 {
		return false
	}
	fill, e := r.take(left)
	return e == api.OK && fill == 1<<left-1
}

// tokenReader reads tokens by the symbols of the codewords of both tables.
type tokenReader struct {
	bitReader
	first, rest map[api.Field]int
}

// block reads the tokens of one block.
func (r *tokenReader) block(before int) (api.Block, api.Errno) {
	t, e := r.firstToken()
	var l []api.Token
	for e == api.OK {
		l = append(l, t)
		// Each token is examined before the next one is read, because what is wrong with it comes before missing bits behind it.
		b, _, wrong := run.Block(before, l)
		if wrong != api.ErrShort {
			return b, wrong
		}
		t, e = r.restToken()
	}
	return api.Block{}, e
}

func (r *tokenReader) firstToken() (api.Token, api.Errno) {
	sym, e := r.symbol(r.first)
	if e != api.OK {
		return api.Token{}, e
	}
	if sym > maxFirstSize {
		return api.Token{}, api.ErrForm
	}
	return r.token(sym, sym)
}

func (r *tokenReader) restToken() (api.Token, api.Errno) {
	sym, e := r.symbol(r.rest)
	if e != api.OK {
		return api.Token{}, e
	}
	if sym%step > maxRestSize {
		return api.Token{}, api.ErrForm
	}
	return r.token(sym, sym%step)
}

// symbol reads one codeword as table.Decode does, which would examine the table again for each of them.
func (r *tokenReader) symbol(symbols map[api.Field]int) (int, api.Errno) {
	var f api.Field
	for f.Width < api.MaxLong {
		bit, e := r.take(1)
		if e != api.OK {
			return 0, e
		}
		f.Width++
		f.Value = f.Value<<1 | bit
		if sym, found := symbols[f]; found {
			return sym, api.OK
		}
	}
	return 0, api.ErrForm
}

// token reads the value behind the codeword of sym.
func (r *tokenReader) token(sym, width int) (api.Token, api.Errno) {
	value, e := r.take(width)
	if e != api.OK {
		return api.Token{}, e
	}
	return api.Token{Sym: sym, Width: width, Value: value}, api.OK
}
