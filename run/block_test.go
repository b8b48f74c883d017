package run

import (
	"math"
	"slices"
	"testing"

	"mezzotint/api"
)

// wrongAnywhere are tokens that are wrong as the first one and as another one.
var wrongAnywhere = []api.Token{
	// The Width differs.
	{Sym: 1}, {Sym: 0, Width: 1}, {Sym: 0, Width: 1, Value: 1}, {Sym: 3, Width: 2, Value: 2}, {Sym: 3, Width: 4, Value: 2}, {Sym: 11, Width: 12}, {Sym: 11, Width: 10},
	{Sym: 1, Width: 17, Value: 1}, {Sym: 1, Width: -15, Value: 1}, {Sym: 1, Width: -1, Value: 1}, {Sym: 0, Width: 16}, {Sym: 0, Width: -16}, {Sym: 240, Width: 240}, {Sym: 3, Width: 1<<32 + 3, Value: 2},
	{Sym: 1, Width: math.MaxInt, Value: 1}, {Sym: 1, Width: math.MinInt, Value: 1}, {Sym: 0, Width: math.MinInt}, {Sym: 0, Width: math.MaxInt},
	{Sym: 17, Width: 17, Value: 1}, {Sym: 17, Width: 2, Value: 1}, {Sym: 17, Width: 0}, {Sym: 16, Width: 16},
	// The Value does not fit.
	{Sym: 0, Value: 1}, {Sym: 0, Value: -1}, {Sym: 1, Width: 1, Value: 2}, {Sym: 1, Width: 1, Value: -1}, {Sym: 3, Width: 3, Value: 8}, {Sym: 3, Width: 3, Value: -1}, {Sym: 3, Width: 3, Value: -8},
	{Sym: 11, Width: 11, Value: 2048}, {Sym: 11, Width: 11, Value: 4095}, {Sym: 11, Width: 11, Value: -1}, {Sym: 3, Width: 3, Value: 1<<32 + 2}, {Sym: 3, Width: 3, Value: -1<<32 + 2},
	{Sym: 3, Width: 3, Value: math.MaxInt}, {Sym: 3, Width: 3, Value: math.MinInt}, {Sym: 0, Value: math.MaxInt}, {Sym: 0, Value: math.MinInt},
	// The Sym is too large.
	{Sym: 13, Width: 13}, {Sym: 13, Width: 13, Value: 1}, {Sym: 14, Width: 14}, {Sym: 15, Width: 15}, {Sym: 15, Width: 15, Value: 1}, {Sym: 12, Width: 12, Value: 4096}, {Sym: 12, Width: 12, Value: -1},
	{Sym: math.MaxInt, Width: 15}, {Sym: math.MaxInt, Width: math.MaxInt}, {Sym: math.MaxInt - 15}, {Sym: math.MaxInt - 14, Width: 1, Value: 1}, {Sym: math.MaxInt - 4, Width: 11, Value: 1},
	{Sym: 1 << 32}, {Sym: 1<<32 + 1, Width: 1, Value: 1}, {Sym: 1 << 62}, {Sym: 1025, Width: 1, Value: 1},
	// No number of bits is negative.
	{Sym: -1, Width: -1}, {Sym: -1, Width: 15}, {Sym: -1, Width: -1, Value: -1}, {Sym: -1}, {Sym: -15, Width: 1, Value: 1}, {Sym: -15, Width: -15}, {Sym: -16}, {Sym: -16, Width: -16}, {Sym: -13, Width: 3, Value: 2}, {Sym: -240}, {Sym: -256},
	{Sym: math.MinInt}, {Sym: math.MinInt, Width: math.MinInt}, {Sym: math.MinInt + 1, Width: 1, Value: 1}, {Sym: math.MinInt + 1, Width: -15}, {Sym: math.MinInt, Width: math.MinInt, Value: math.MinInt},
}

// wrongLater are tokens that are wrong behind the first one.
func wrongLater() []api.Token {
	out := slices.Clone(wrongAnywhere)
	for r := range 16 {
		for width := 12; width <= 15; width++ {
			out = append(out, api.Token{Sym: 16*r + width, Width: width}, api.Token{Sym: 16*r + width, Width: width, Value: powers[11]})
		}
		if r > 0 && r < 15 {
			out = append(out, api.Token{Sym: 16 * r})
		}
		out = append(out,
			api.Token{Sym: 16*r + 5, Width: 4, Value: 3}, api.Token{Sym: 16*r + 5, Width: 6, Value: 3}, api.Token{Sym: 16*r + 5, Width: 16*r + 21, Value: 3},
			api.Token{Sym: 16*r + 5, Width: 5, Value: 32}, api.Token{Sym: 16*r + 5, Width: 5, Value: -1})
	}
	for _, sym := range []int{256, 272, 496, 1008, 1024, 1 << 20} {
		out = append(out, api.Token{Sym: sym})
	}
	return append(out, api.Token{Sym: 240, Value: 1}, api.Token{Sym: 240, Value: -1}, api.Token{Sym: 240, Width: 1, Value: 1})
}

func TestBlockRestoresTokens(t *testing.T) {
	further := [][]api.Token{
		{},
		{end},
		{end, end, end},
		{zeros},
		{{Sym: 3, Width: 3, Value: 5}, end},
		{{Sym: 1}, {Sym: -1, Width: -1, Value: -1}},
		{{Sym: 200, Width: math.MaxInt, Value: math.MinInt}},
		slices.Repeat([]api.Token{{Sym: 1, Width: 1, Value: 1}}, 100),
	}
	for _, s := range samples() {
		l, e := Tokens(s.before, s.b)
		if e != api.OK {
			t.Fatalf("Tokens(%d, %v): got the error %d", s.before, s.b, e)
		}
		for _, f := range further {
			expectBlock(t, s.before, slices.Concat(l, f), s.b, len(l))
		}
	}
}

// The tokens of several blocks are used one block after the other.
func TestBlockAfterBlock(t *testing.T) {
	var l []api.Token
	before := 0
	var want []api.Block
	for _, s := range samples()[:200] {
		tokens, _ := Tokens(before, s.b)
		l = append(l, tokens...)
		want = append(want, s.b)
		before = s.b[0]
	}
	before = 0
	for _, b := range want {
		x, n, e := Block(before, l)
		if x != b || e != api.OK {
			t.Fatalf("got %v, %d and the error %d, want %v", x, n, e, b)
		}
		l = l[n:]
		before = x[0]
	}
	if len(l) != 0 {
		t.Errorf("%d tokens remain", len(l))
	}
}

func TestBlockShort(t *testing.T) {
	for _, before := range []int{-2047, -1, 0, 2047} {
		expectBlockError(t, before, nil, api.ErrShort)
		expectBlockError(t, before, []api.Token{}, api.ErrShort)
	}
	expectBlockError(t, 0, []api.Token{end}, api.ErrShort)
	expectBlockError(t, 0, []api.Token{end, zeros}, api.ErrShort)
	expectBlockError(t, 0, []api.Token{end, zeros, zeros, zeros}, api.ErrShort)
	for _, s := range samples() {
		l := modelTokens(s.before, s.b)
		for n := range l {
			expectBlockError(t, s.before, l[:n:n], api.ErrShort)
		}
	}
}

// The unused capacity of an argument is not part of it.
func TestBlockIgnoresCapacity(t *testing.T) {
	for _, s := range samples()[:100] {
		l := modelTokens(s.before, s.b)
		for n := range l {
			expectBlockError(t, s.before, l[:n], api.ErrShort)
		}
	}
}

func TestBlockBefore(t *testing.T) {
	for _, before := range []int{-2047, -2046, 0, 2046, 2047} {
		expectBlock(t, before, []api.Token{end, end}, api.Block{before}, 2)
	}
	for _, before := range wrongNumbers {
		expectBlockError(t, before, nil, api.ErrArg)
		expectBlockError(t, before, []api.Token{end, end}, api.ErrArg)
		expectBlockError(t, before, []api.Token{end}, api.ErrArg)
		expectBlockError(t, before, []api.Token{{Sym: 1, Width: 1}, end}, api.ErrArg)
		expectBlockError(t, before, []api.Token{end, zeros, end}, api.ErrArg)
		for _, wrong := range wrongAnywhere {
			expectBlockError(t, before, []api.Token{wrong}, api.ErrArg)
			expectBlockError(t, before, []api.Token{end, wrong, end}, api.ErrArg)
		}
	}
}

func TestBlockWrongFirstToken(t *testing.T) {
	wrong := slices.Clone(wrongAnywhere)
	for _, sym := range []int{13, 14, 15, 16, 17, 24, 32, 62, 63, 64, 65, 128, 240, 255, 256} {
		for _, width := range []int{sym, sym % 16} {
			wrong = append(wrong, api.Token{Sym: sym, Width: width}, api.Token{Sym: sym, Width: width, Value: 1})
		}
	}
	for _, before := range []int{-2047, -100, 0, 100, 2047} {
		for _, w := range wrong {
			expectBlockError(t, before, []api.Token{w}, api.ErrForm)
			expectBlockError(t, before, []api.Token{w, end}, api.ErrForm)
			expectBlockError(t, before, []api.Token{w, {Sym: 1, Width: 1}, end}, api.ErrForm)
		}
	}
}

// A wrong token is noticed wherever it is, and also if the tokens behind it are missing or wrong.
func TestBlockWrongLaterToken(t *testing.T) {
	one := func(sym int) api.Token { return api.Token{Sym: sym, Width: 1, Value: 1} }
	for _, ahead := range [][]api.Token{
		{end},
		{one(1)},
		{end, one(1)},
		{end, one(241), one(1)},
		{end, zeros},
		{end, zeros, zeros, zeros},
		{end, zeros, one(17), zeros},
		slices.Concat([]api.Token{one(1)}, slices.Repeat([]api.Token{one(1)}, 62)),
		{end, zeros, zeros, zeros, one(209)},
	} {
		expectBlockError(t, 0, ahead, api.ErrShort)
		for _, w := range wrongLater() {
			l := append(slices.Clone(ahead), w)
			expectBlockError(t, 0, l, api.ErrForm)
			expectBlockError(t, 0, append(l, end), api.ErrForm)
			expectBlockError(t, 0, append(l, one(1), end), api.ErrForm)
			expectBlockError(t, 0, append(l, w), api.ErrForm)
		}
	}
}

// What is wrong behind the last token of a block is not read.
func TestBlockWrongBehindTheBlock(t *testing.T) {
	one := api.Token{Sym: 1, Width: 1, Value: 1}
	full := slices.Repeat([]api.Token{one}, 64)
	for _, w := range wrongLater() {
		expectBlock(t, 0, []api.Token{one, end, w}, api.Block{1}, 2)
		expectBlock(t, 0, append(slices.Clone(full), w), filled(func(int) int { return 1 }), 64)
	}
}

// All differences that two numbers can have, and the values next to those of each size.
func TestBlockFirstValues(t *testing.T) {
	for n := -4094; n <= 4094; n++ {
		width, value := modelBits(n)
		before := -n / 2
		expectBlock(t, before, []api.Token{{Sym: width, Width: width, Value: value}, end}, api.Block{before + n}, 2)
	}
	for width, power := range powers {
		for _, value := range []int{power, power + 1, -1, 4096, math.MaxInt, math.MinInt} {
			expectBlockError(t, 0, []api.Token{{Sym: width, Width: width, Value: value}, end}, api.ErrForm)
		}
	}
}

// A difference leads to a number 0 within the bounds.
func TestBlockNumberZeroBounds(t *testing.T) {
	for _, c := range []struct{ before, width, value, n int }{
		{2046, 1, 1, 2047}, {-2046, 1, 0, -2047}, {0, 11, 2047, 2047}, {0, 11, 0, -2047}, {-2047, 12, 4094, 2047}, {2047, 12, 1, -2047}, {-1, 12, 2048, 2047}, {1, 12, 2047, -2047},
	} {
		expectBlock(t, c.before, []api.Token{{Sym: c.width, Width: c.width, Value: c.value}, end}, api.Block{c.n}, 2)
	}
	for _, c := range []struct{ before, width, value int }{
		{2047, 1, 1}, {-2047, 1, 0}, {1, 11, 2047}, {-1, 11, 0}, {0, 12, 2048}, {0, 12, 2047}, {0, 12, 4095}, {0, 12, 0},
		{-2046, 12, 4094}, {2046, 12, 1}, {-2047, 12, 4095}, {2047, 12, 0}, {2047, 12, 4095}, {-2047, 12, 0}, {2000, 6, 48}, {-2000, 6, 15},
	} {
		first := api.Token{Sym: c.width, Width: c.width, Value: c.value}
		expectBlockError(t, c.before, []api.Token{first, end}, api.ErrForm)
		expectBlockError(t, c.before, []api.Token{first}, api.ErrForm)
		expectBlockError(t, c.before, []api.Token{first, {Sym: 1}}, api.ErrForm)
	}
}

// After i numbers that are not 0, a token reaches number 63 or goes beyond it.
func TestBlockBeyondTheEnd(t *testing.T) {
	one := api.Token{Sym: 1, Width: 1, Value: 1}
	for i := 1; i < 64; i++ {
		ahead := slices.Repeat([]api.Token{one}, i)
		for r := range 16 {
			l := append(slices.Clone(ahead), api.Token{Sym: 16*r + 1, Width: 1, Value: 1})
			switch at := i + r; {
			case at > 63:
				expectBlockError(t, 0, l, api.ErrForm)
				expectBlockError(t, 0, append(l, end), api.ErrForm)
			case at == 63:
				want := filled(func(k int) int {
					if k < i || k == 63 {
						return 1
					}
					return 0
				})
				expectBlock(t, 0, l, want, i+1)
				expectBlock(t, 0, append(l, end), want, i+1)
			default:
				expectBlockError(t, 0, l, api.ErrShort)
			}
		}
		want := api.ErrShort
		if i+16 > 63 {
			want = api.ErrForm
		}
		expectBlockError(t, 0, append(ahead, zeros), want)
		expectBlockError(t, 0, append(ahead, zeros, end), api.ErrForm)
	}
}

func TestBlockZerosBeyondTheEnd(t *testing.T) {
	one := func(sym int) api.Token { return api.Token{Sym: sym, Width: 1, Value: 1} }
	expectBlockError(t, 0, []api.Token{end, zeros, zeros, zeros, zeros}, api.ErrForm)
	expectBlockError(t, 0, []api.Token{end, zeros, zeros, zeros, zeros, end}, api.ErrForm)
	expectBlockError(t, 0, []api.Token{end, zeros, zeros, zeros, one(241)}, api.ErrForm)
	expectBlock(t, 0, []api.Token{end, zeros, zeros, zeros, one(225)}, block(map[int]int{63: 1}), 5)
	// Number 47 is set, and 16 zeros lead to number 63 exactly: an end was right there.
	expectBlockError(t, 0, []api.Token{end, zeros, zeros, one(225), zeros}, api.ErrForm)
	expectBlockError(t, 0, []api.Token{end, zeros, zeros, one(225), zeros, end}, api.ErrForm)
	expectBlock(t, 0, []api.Token{end, zeros, zeros, one(225), end}, block(map[int]int{47: 1}), 5)
	expectBlock(t, 0, []api.Token{end, zeros, zeros, one(225), one(241)}, block(map[int]int{47: 1, 63: 1}), 5)
}

// Tokens that lead to a block whose own tokens are others.
func TestBlockOtherTokens(t *testing.T) {
	one := func(sym int) api.Token { return api.Token{Sym: sym, Width: 1, Value: 1} }
	for _, l := range [][]api.Token{
		{end, zeros, end},
		{end, zeros, zeros, end},
		{end, zeros, zeros, zeros, end},
		{one(1), one(1), zeros, end},
		{end, one(1), zeros, zeros, end},
		{end, zeros, one(1), zeros, end},
		{end, zeros, one(1), zeros, one(17), zeros, end},
		{end, one(257), end},
		{end, one(273), end},
		{end, one(1), one(257), end},
		{end, zeros, one(257), end},
		{end, one(977), end},
		{end, one(993)},
		{end, one(993), end},
	} {
		expectBlockError(t, 0, l, api.ErrForm)
		expectBlockError(t, 0, append(l, end, end), api.ErrForm)
	}
}

// A Sym above 255 has no cause of an error of its own unless it goes beyond number 63: first it turns out whether tokens are missing.
func TestBlockLargeSymShort(t *testing.T) {
	for _, sym := range []int{257, 273, 977} {
		large := api.Token{Sym: sym, Width: 1, Value: 1}
		expectBlockError(t, 0, []api.Token{end, large}, api.ErrShort)
		expectBlockError(t, 0, []api.Token{end, large, {Sym: 1}}, api.ErrForm)
	}
	expectBlockError(t, 0, []api.Token{end, {Sym: 993, Width: 1, Value: 1}}, api.ErrForm)
	expectBlockError(t, 0, []api.Token{end, {Sym: 1009, Width: 1, Value: 1}}, api.ErrForm)
}

// All lists of up to four tokens of a few kinds.
func TestBlockShortLists(t *testing.T) {
	kinds := []api.Token{
		end, zeros, {Sym: 1, Width: 1, Value: 1}, {Sym: 2, Width: 2}, {Sym: 12, Width: 12, Value: 2048}, {Sym: 241, Width: 1}, {Sym: 225, Width: 1, Value: 1},
		{Sym: 16}, {Sym: 1}, {Sym: 3, Width: 3, Value: 8}, {Sym: 492, Width: 12}, {Sym: 753, Width: 1, Value: 1}, {Sym: -15, Width: 1, Value: 1},
	}
	lists := [][]api.Token{{}}
	for range 5 {
		var longer [][]api.Token
		for _, l := range lists {
			for _, before := range []int{-2047, 0, 2047} {
				expectAsModel(t, before, l)
			}
			if len(l) < 4 {
				for _, k := range kinds {
					longer = append(longer, append(slices.Clone(l), k))
				}
			}
		}
		lists = longer
	}
}

// The tokens of a block with one of them changed, removed or repeated.
func TestBlockChangedTokens(t *testing.T) {
	r := random(4)
	for _, s := range samples() {
		l := modelTokens(s.before, s.b)
		i := r.below(len(l))
		for _, by := range []int{-256, -240, -16, -1, 1, 15, 16, 17, 256} {
			for _, changed := range []api.Token{
				{Sym: l[i].Sym + by, Width: l[i].Width, Value: l[i].Value},
				{Sym: l[i].Sym, Width: l[i].Width + by, Value: l[i].Value},
				{Sym: l[i].Sym, Width: l[i].Width, Value: l[i].Value + by},
				{Sym: l[i].Sym + by, Width: l[i].Width + by, Value: l[i].Value},
			} {
				x := slices.Clone(l)
				x[i] = changed
				expectAsModel(t, s.before, x)
				expectAsModel(t, s.before, append(x, end))
			}
		}
		expectAsModel(t, s.before, slices.Concat(l[:i], l[i+1:]))
		expectAsModel(t, s.before, slices.Concat(l[:i], l[i:i+1], l[i:]))
		expectAsModel(t, s.before, slices.Concat(l[:i], []api.Token{zeros}, l[i:]))
		expectAsModel(t, r.coef(), l)
	}
}

// expectAsModel fails unless Block returns what the model returns.
func expectAsModel(t *testing.T, before int, l []api.Token) {
	t.Helper()
	b, used, want := modelBlock(before, l)
	if x, n, e := Block(before, l); x != b || n != used || e != want {
		t.Errorf("Block(%d, %v): got %v, %d and the error %d, want %v, %d and the error %d", before, l, x, n, e, b, used, want)
	}
}

// P2: neither the elements nor the unused capacity of an argument change, whether the call fails or not.
func TestBlockArgumentsUnchanged(t *testing.T) {
	for _, s := range samples()[:300] {
		l := append(modelTokens(s.before, s.b), end, zeros, api.Token{Sym: 1})
		same := slices.Clone(l)
		for n := range len(l) + 1 {
			Block(s.before, l[:n])
			Block(2048, l[:n])
			Block(-s.before, l[n:])
			if !slices.Equal(l, same) {
				t.Fatalf("the tokens %v became %v", same, l)
			}
		}
		x, _, _ := Block(s.before, l)
		overwrite(l, api.Token{Sym: -7, Width: -7, Value: -7})
		if x != s.b {
			t.Errorf("the block changes with the tokens: got %v, want %v", x, s.b)
		}
	}
}

// P2: a call leaves nothing behind that a later call could see.
func TestBlockNoState(t *testing.T) {
	b := block(map[int]int{0: 5, 2: -2, 63: 1})
	l := modelTokens(3, b)
	for _, w := range wrongAnywhere {
		Block(0, []api.Token{w})
		Block(0, []api.Token{end, {Sym: 1, Width: 1, Value: 1}, w})
		Block(math.MinInt, l)
		Block(3, l[:4])
		expectBlock(t, 3, l, b, 6)
		expectBlockError(t, 3, l[:2], api.ErrShort)
	}
}

// P1: no combination of extreme numbers makes a function panic.
func TestNoPanic(t *testing.T) {
	var extremes []int
	for k := 0; k < 64; k += 3 {
		extremes = append(extremes, 1<<k-1, 1<<k, -1<<k-1, -1<<k)
	}
	for _, x := range extremes {
		Tokens(x, api.Block{x})
		Tokens(0, api.Block{63: x})
		for _, y := range extremes {
			Tokens(x, api.Block{y})
			for _, z := range extremes {
				token := api.Token{Sym: x, Width: y, Value: z}
				Block(0, []api.Token{token})
				Block(x, []api.Token{token, token})
				Block(0, []api.Token{end, token, token, end})
			}
		}
	}
}
