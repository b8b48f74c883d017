package run

import (
	"slices"
	"sync"
	"testing"

	"mezzotint/api"
)

// order is the zigzag order, written out.
var order = [64]int{
	0, 1, 8, 16, 9, 2, 3, 10, 17, 24, 32, 25, 18, 11, 4, 5,
	12, 19, 26, 33, 40, 48, 41, 34, 27, 20, 13, 6, 7, 14, 21, 28,
	35, 42, 49, 56, 57, 50, 43, 36, 29, 22, 15, 23, 30, 37, 44, 51,
	58, 59, 52, 45, 38, 31, 39, 46, 53, 60, 61, 54, 47, 55, 62, 63,
}

// powers are 2^0 to 2^12, written out.
var powers = [13]int{1, 2, 4, 8, 16, 32, 64, 128, 256, 512, 1024, 2048, 4096}

var (
	end   = api.Token{}
	zeros = api.Token{Sym: 240}
)

// block returns the block with these numbers of the zigzag order, and 0 elsewhere.
func block(numbers map[int]int) api.Block {
	var b api.Block
	for i, n := range numbers {
		b[order[i]] = n
	}
	return b
}

// filled returns the block whose number i of the zigzag order is f(i).
func filled(f func(i int) int) api.Block {
	var b api.Block
	for i, at := range order {
		b[at] = f(i)
	}
	return b
}

// modelBits returns the size and the value bits of a number as chapter 8 defines them.
func modelBits(n int) (int, int) {
	width := 0
	for max(n, -n) >= powers[width] {
		width++
	}
	if n > 0 {
		return width, n
	}
	return width, n + powers[width] - 1
}

// modelNumbers has the number for each size and its value bits.
var modelNumbers = sync.OnceValue(func() map[[2]int]int {
	m := map[[2]int]int{}
	for n := -4095; n <= 4095; n++ {
		width, value := modelBits(n)
		m[[2]int{width, value}] = n
	}
	return m
})

// modelTokens is P14 for numbers within the bounds: it looks back from each number for the preceding one that is not 0.
func modelTokens(before int, b api.Block) []api.Token {
	width, value := modelBits(b[0] - before)
	out := []api.Token{{Sym: width, Width: width, Value: value}}
	lastNonzero := 0
	for i := 1; i < 64; i++ {
		if b[order[i]] == 0 {
			continue
		}
		r := i - lastNonzero - 1
		lastNonzero = i
		out = append(out, slices.Repeat([]api.Token{{Sym: 240}}, r/16)...)
		width, value = modelBits(b[order[i]])
		out = append(out, api.Token{Sym: 16*(r%16) + width, Width: width, Value: value})
	}
	if lastNonzero != 63 {
		out = append(out, api.Token{Sym: 0})
	}
	return out
}

// modelBlock is P15 for a valid before, with a growing list of numbers.
func modelBlock(before int, l []api.Token) (api.Block, int, api.Errno) {
	var numbers []int
	used := 0
	for ended := false; !ended && len(numbers) < 64; used++ {
		if used == len(l) {
			return api.Block{}, 0, api.ErrShort
		}
		t := l[used]
		n, valid := modelNumbers()[[2]int{t.Width, t.Value}]
		switch {
		case !valid || t.Sym < 0:
			return api.Block{}, 0, api.ErrForm
		case used == 0:
			if t.Sym != t.Width || before+n < -2047 || before+n > 2047 {
				return api.Block{}, 0, api.ErrForm
			}
			numbers = append(numbers, before+n)
		case t.Sym&15 != t.Width || t.Width == 12 || t.Width == 0 && t.Sym != 0 && t.Sym != 240 || t.Sym>>4 >= 64-len(numbers):
			return api.Block{}, 0, api.ErrForm
		case t.Sym == 0:
			ended = true
		default:
			numbers = append(numbers, make([]int, t.Sym>>4)...)
			numbers = append(numbers, n)
		}
	}
	b := filled(func(i int) int {
		if i < len(numbers) {
			return numbers[i]
		}
		return 0
	})
	if !slices.Equal(modelTokens(before, b), l[:used]) {
		return api.Block{}, 0, api.ErrForm
	}
	return b, used, api.OK
}

// random yields the same numbers in each run of the tests.
type random uint64

// below returns a number from 0 to n-1.
func (r *random) below(n int) int {
	*r = *r*6364136223846793005 + 1442695040888963407
	return int(uint64(*r)>>33) % n
}

// coef returns a number in [-2047, 2047]; all sizes are about as frequent.
func (r *random) coef() int {
	n := r.below(powers[r.below(12)])
	if r.below(2) == 0 {
		return -n
	}
	return n
}

// sample is a block with the number 0 of the preceding one.
type sample struct {
	before int
	b      api.Block
}

// samples returns blocks with few and with many numbers that are not 0.
func samples() []sample {
	out := []sample{{0, api.Block{}}, {-2047, filled(func(int) int { return 2047 })}, {2047, filled(func(int) int { return -2047 })}}
	r := random(9)
	for k := range 3000 {
		var b api.Block
		share := 1 + k%70
		for i := range b {
			if r.below(share) == 0 {
				b[i] = r.coef()
			}
		}
		out = append(out, sample{r.coef(), b})
	}
	return out
}

func expectTokens(t *testing.T, before int, b api.Block, want ...api.Token) {
	t.Helper()
	if l, e := Tokens(before, b); !slices.Equal(l, want) || e != api.OK {
		t.Errorf("Tokens(%d, %v): got %v and the error %d, want %v", before, b, l, e, want)
	}
	if x, n, e := Block(before, want); x != b || n != len(want) || e != api.OK {
		t.Errorf("Block(%d, %v): got %v, %d and the error %d, want %v", before, want, x, n, e, b)
	}
}

func expectTokensError(t *testing.T, before int, b api.Block) {
	t.Helper()
	if l, e := Tokens(before, b); len(l) != 0 || e != api.ErrArg {
		t.Errorf("Tokens(%d, %v): got %v and the error %d, want ErrArg", before, b, l, e)
	}
}

func expectBlock(t *testing.T, before int, l []api.Token, want api.Block, used int) {
	t.Helper()
	if x, n, e := Block(before, l); x != want || n != used || e != api.OK {
		t.Errorf("Block(%d, %v): got %v, %d and the error %d, want %v, %d", before, l, x, n, e, want, used)
	}
}

func expectBlockError(t *testing.T, before int, l []api.Token, want api.Errno) {
	t.Helper()
	if x, n, e := Block(before, l); x != (api.Block{}) || n != 0 || e != want {
		t.Errorf("Block(%d, %v): got %v, %d and the error %d, want the error %d", before, l, x, n, e, want)
	}
}
