package run

import (
	"math"
	"slices"
	"testing"

	"mezzotint/api"
)

// wrongNumbers are no coefficients.
var wrongNumbers = []int{
	-2048, 2048, -2049, 2049, -4095, 4095, 4096, -4096, 1 << 16, -1 << 16, 1 << 32, -1 << 32, 1<<32 + 5, -1<<32 - 5,
	math.MinInt32, math.MaxInt32, math.MinInt, math.MinInt + 1, math.MinInt + 2047, math.MaxInt, math.MaxInt - 1, math.MaxInt - 2047,
}

func TestTokensExample(t *testing.T) {
	expectTokens(t, 0, api.Block{}, api.Token{}, api.Token{})
}

// The symbol of a 1 at the numbers 1 to 63, and how many tokens of 16 zeros are ahead of it.
func TestTokensSingleNumber(t *testing.T) {
	i := 1
	for longRuns, syms := range [][]int{
		{0x01, 0x11, 0x21, 0x31, 0x41, 0x51, 0x61, 0x71, 0x81, 0x91, 0xa1, 0xb1, 0xc1, 0xd1, 0xe1, 0xf1},
		{0x01, 0x11, 0x21, 0x31, 0x41, 0x51, 0x61, 0x71, 0x81, 0x91, 0xa1, 0xb1, 0xc1, 0xd1, 0xe1, 0xf1},
		{0x01, 0x11, 0x21, 0x31, 0x41, 0x51, 0x61, 0x71, 0x81, 0x91, 0xa1, 0xb1, 0xc1, 0xd1, 0xe1, 0xf1},
		{0x01, 0x11, 0x21, 0x31, 0x41, 0x51, 0x61, 0x71, 0x81, 0x91, 0xa1, 0xb1, 0xc1, 0xd1, 0xe1},
	} {
		for _, sym := range syms {
			for _, first := range []int{0, 1} {
				want := []api.Token{{Sym: first, Width: first, Value: first}}
				want = append(want, slices.Repeat([]api.Token{zeros}, longRuns)...)
				want = append(want, api.Token{Sym: sym, Width: 1, Value: 1})
				if i < 63 {
					want = append(want, end)
				}
				expectTokens(t, 7, block(map[int]int{0: 7 + first, i: 1}), want...)
			}
			i++
		}
	}
	if i != 64 {
		t.Errorf("only %d numbers are tested", i-1)
	}
}

func TestTokensRuns(t *testing.T) {
	minus5 := func(sym int) api.Token { return api.Token{Sym: sym, Width: 3, Value: 2} }
	for _, c := range []struct {
		i    int // behind i-1 zeros
		want []api.Token
	}{
		{1, []api.Token{{}, minus5(3), {}}},
		{16, []api.Token{{}, minus5(243), {}}},
		{17, []api.Token{{}, zeros, minus5(3), {}}},
		{18, []api.Token{{}, zeros, minus5(19), {}}},
		{32, []api.Token{{}, zeros, minus5(243), {}}},
		{33, []api.Token{{}, zeros, zeros, minus5(3), {}}},
		{48, []api.Token{{}, zeros, zeros, minus5(243), {}}},
		{49, []api.Token{{}, zeros, zeros, zeros, minus5(3), {}}},
		{63, []api.Token{{}, zeros, zeros, zeros, minus5(227)}},
	} {
		expectTokens(t, 0, block(map[int]int{c.i: -5}), c.want...)
	}
}

// Each run is counted from the preceding number that is not 0.
func TestTokensSeveralRuns(t *testing.T) {
	one := func(sym int) api.Token { return api.Token{Sym: sym, Width: 1, Value: 1} }
	for _, c := range []struct {
		places []int
		want   []api.Token
	}{
		{[]int{1, 2, 3}, []api.Token{{}, one(1), one(1), one(1), {}}},
		{[]int{2, 4, 6}, []api.Token{{}, one(17), one(17), one(17), {}}},
		{[]int{16, 32, 48}, []api.Token{{}, one(241), one(241), one(241), {}}},
		{[]int{17, 34, 51}, []api.Token{{}, zeros, one(1), zeros, one(1), zeros, one(1), {}}},
		{[]int{18, 36, 54}, []api.Token{{}, zeros, one(17), zeros, one(17), zeros, one(17), {}}},
		{[]int{16, 33, 51}, []api.Token{{}, one(241), zeros, one(1), zeros, one(17), {}}},
		{[]int{32, 63}, []api.Token{{}, zeros, one(241), zeros, one(225)}},
		{[]int{31, 63}, []api.Token{{}, zeros, one(225), zeros, one(241)}},
		{[]int{33, 50}, []api.Token{{}, zeros, zeros, one(1), zeros, one(1), {}}},
		{[]int{30, 63}, []api.Token{{}, zeros, one(209), zeros, zeros, one(1)}},
		{[]int{1, 48, 49}, []api.Token{{}, one(1), zeros, zeros, one(225), one(1), {}}},
		{[]int{1, 49, 62}, []api.Token{{}, one(1), zeros, zeros, one(241), one(193), {}}},
		{[]int{1, 50, 63}, []api.Token{{}, one(1), zeros, zeros, zeros, one(1), one(193)}},
		{[]int{62, 63}, []api.Token{{}, zeros, zeros, zeros, one(209), one(1)}},
	} {
		numbers := map[int]int{}
		for _, i := range c.places {
			numbers[i] = 1
		}
		expectTokens(t, 0, block(numbers), c.want...)
	}
}

func TestTokensAllNumbersNotZero(t *testing.T) {
	want := []api.Token{{Sym: 2, Width: 2, Value: 2}}
	numbers := map[int]int{0: 12}
	for i := 1; i < 64; i += 3 {
		numbers[i], numbers[i+1], numbers[i+2] = -1, 6, -2047
		want = append(want, api.Token{Sym: 1, Width: 1}, api.Token{Sym: 3, Width: 3, Value: 6}, api.Token{Sym: 11, Width: 11})
	}
	expectTokens(t, 10, block(numbers), want...)
	numbers[63] = 0
	want[63] = end
	expectTokens(t, 10, block(numbers), want...)
	numbers[63], numbers[62] = 1, 0
	want = append(want[:62], api.Token{Sym: 17, Width: 1, Value: 1})
	expectTokens(t, 10, block(numbers), want...)
}

func TestTokensFirst(t *testing.T) {
	for _, c := range []struct{ before, n, width, value int }{
		{0, 0, 0, 0}, {5, 5, 0, 0}, {-2047, -2047, 0, 0}, {2047, 2047, 0, 0},
		{3, 5, 2, 2}, {5, 3, 2, 1}, {-3, -2, 1, 1}, {-2, -3, 1, 0}, {-1, 1, 2, 2}, {1, -1, 2, 1},
		{0, -5, 3, 2}, {-5, 0, 3, 5}, {0, 100, 7, 100}, {100, 0, 7, 27},
		{0, 1023, 10, 1023}, {0, -1023, 10, 0}, {0, 1024, 11, 1024}, {0, -1024, 11, 1023},
		{0, 2047, 11, 2047}, {0, -2047, 11, 0}, {-2047, 0, 11, 2047}, {2047, 0, 11, 0},
		{-1, 2047, 12, 2048}, {1, -2047, 12, 2047}, {-2047, 1, 12, 2048}, {2047, -1, 12, 2047},
		{-2047, 2047, 12, 4094}, {2047, -2047, 12, 1}, {-2047, 2046, 12, 4093}, {2046, -2047, 12, 2},
	} {
		first := api.Token{Sym: c.width, Width: c.width, Value: c.value}
		expectTokens(t, c.before, api.Block{c.n}, first, end)
		expectTokens(t, c.before, api.Block{c.n, -2}, first, api.Token{Sym: 2, Width: 2, Value: 1}, end)
	}
}

// The sizes and value bits of numbers after the first one do not depend on their neighbors.
func TestTokensOtherNumbers(t *testing.T) {
	for _, c := range []struct{ n, width, value int }{
		{1, 1, 1}, {-1, 1, 0}, {2, 2, 2}, {-2, 2, 1}, {-3, 2, 0}, {-5, 3, 2}, {8, 4, 8}, {-8, 4, 7}, {31, 5, 31}, {-32, 6, 31},
		{100, 7, 100}, {-100, 7, 27}, {255, 8, 255}, {256, 9, 256}, {-512, 10, 511}, {1024, 11, 1024}, {-1024, 11, 1023}, {2047, 11, 2047}, {-2047, 11, 0},
	} {
		want := []api.Token{{}, {Sym: c.width, Width: c.width, Value: c.value}, {Sym: 32 + c.width, Width: c.width, Value: c.value}, {}}
		expectTokens(t, 9, block(map[int]int{0: 9, 1: c.n, 4: c.n}), want...)
	}
}

// The numbers are taken in zigzag order, not by rows and not by columns.
func TestTokensZigzagOrder(t *testing.T) {
	expectTokens(t, 0, api.Block{1: 1}, end, api.Token{Sym: 1, Width: 1, Value: 1}, end)
	expectTokens(t, 0, api.Block{8: 1}, end, api.Token{Sym: 17, Width: 1, Value: 1}, end)
	expectTokens(t, 0, api.Block{16: 1}, end, api.Token{Sym: 33, Width: 1, Value: 1}, end)
	expectTokens(t, 0, api.Block{9: 1}, end, api.Token{Sym: 49, Width: 1, Value: 1}, end)
	expectTokens(t, 0, api.Block{2: 1}, end, api.Token{Sym: 65, Width: 1, Value: 1}, end)
	expectTokens(t, 0, api.Block{7: 1}, end, zeros, api.Token{Sym: 177, Width: 1, Value: 1}, end)
	expectTokens(t, 0, api.Block{56: 1}, end, zeros, zeros, api.Token{Sym: 33, Width: 1, Value: 1}, end)
	expectTokens(t, 0, api.Block{62: 1, 55: 2},
		end, zeros, zeros, zeros, api.Token{Sym: 194, Width: 2, Value: 2}, api.Token{Sym: 1, Width: 1, Value: 1}, end)
	for i, at := range order {
		var b api.Block
		b[at] = 9
		if l, e := Tokens(0, b); !slices.Equal(l, modelTokens(0, block(map[int]int{i: 9}))) || e != api.OK {
			t.Errorf("9 at the index %d: got %v and the error %d", at, l, e)
		}
	}
}

func TestTokensAgainstModel(t *testing.T) {
	for _, s := range samples() {
		expectTokens(t, s.before, s.b, modelTokens(s.before, s.b)...)
	}
}

func TestTokensBeforeBounds(t *testing.T) {
	for _, n := range []int{-2047, -2046, 0, 2046, 2047} {
		expectTokens(t, n, api.Block{n}, end, end)
	}
	for _, before := range wrongNumbers {
		for _, b := range []api.Block{{}, {2047}, {-2047}, {2048}, {0, 2048}, {before}} {
			expectTokensError(t, before, b)
		}
	}
}

// Each number of a block is checked, at each index.
func TestTokensNumberBounds(t *testing.T) {
	for i := range 64 {
		for _, n := range []int{-2047, -2046, 2046, 2047} {
			b := block(map[int]int{i: n})
			expectTokens(t, n, b, modelTokens(n, b)...)
		}
		for _, n := range wrongNumbers {
			expectTokensError(t, 0, block(map[int]int{i: n}))
			expectTokensError(t, 2047, block(map[int]int{0: 1, 20: 5, 63: -7, i: n}))
		}
	}
}

// P2: a failed call leaves nothing behind that a later call could see.
func TestTokensNoState(t *testing.T) {
	b := block(map[int]int{0: 5, 2: -2, 63: 1})
	want := modelTokens(3, b)
	for _, wrong := range wrongNumbers {
		Tokens(wrong, b)
		Tokens(0, api.Block{wrong})
		Tokens(-2000, filled(func(i int) int { return i }))
		expectTokens(t, 3, b, want...)
	}
}

// P2: a result belongs to the caller, with its capacity, and the block remains as it is.
func TestTokensAreNew(t *testing.T) {
	for _, s := range samples()[:300] {
		same, want := s.b, modelTokens(s.before, s.b)
		first, _ := Tokens(s.before, s.b)
		second, _ := Tokens(s.before, s.b)
		overwrite(second, api.Token{Sym: -7, Width: -7, Value: -7})
		if !slices.Equal(first, want) {
			t.Errorf("two results share memory: %v", first)
		}
		overwrite(first, api.Token{Sym: -8, Width: -8, Value: -8})
		expectTokens(t, s.before, s.b, want...)
		if s.b != same {
			t.Errorf("the block %v became %v", same, s.b)
		}
	}
}

// overwrite sets all elements of s, including those of its unused capacity.
func overwrite[T any](s []T, x T) {
	s = s[:cap(s)]
	for i := range s {
		s[i] = x
	}
}
