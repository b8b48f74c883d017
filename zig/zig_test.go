package zig

import (
	"math"
	"slices"
	"testing"

	"mezzotint/api"
)

// written is the zigzag order as it is drawn on paper: the number in a row and a column says when it is visited.
var written = [8][8]int{
	{0, 1, 5, 6, 14, 15, 27, 28},
	{2, 4, 7, 13, 16, 26, 29, 42},
	{3, 8, 12, 17, 25, 30, 41, 43},
	{9, 11, 18, 24, 31, 40, 44, 53},
	{10, 19, 23, 32, 39, 45, 52, 54},
	{20, 22, 33, 38, 46, 51, 55, 60},
	{21, 34, 37, 47, 50, 56, 59, 61},
	{35, 36, 48, 49, 57, 58, 62, 63},
}

// modelOrder returns the indices in the order that is written above.
func modelOrder() []int {
	out := make([]int, 64)
	for row, visits := range written {
		for column, i := range visits {
			out[i] = 8*row + column
		}
	}
	return out
}

// mixed returns a block of 64 numbers of both signs, the same ones in each run.
func mixed(seed int) api.Block {
	var b api.Block
	state := uint64(seed)
	for i := range b {
		state = state*6364136223846793005 + 1442695040888963407
		b[i] = int(state)
	}
	return b
}

// filled returns the block whose number i is f(i).
func filled(f func(i int) int) api.Block {
	var b api.Block
	for i := range b {
		b[i] = f(i)
	}
	return b
}

// samples returns blocks of ordinary and of extreme numbers.
func samples() []api.Block {
	out := []api.Block{
		{},
		filled(func(i int) int { return i }),
		filled(func(i int) int { return -i }),
		filled(func(i int) int { return 63 - i }),
		filled(func(i int) int { return math.MinInt + i }),
		filled(func(i int) int { return math.MaxInt - i }),
		filled(func(i int) int { return (i%2*2 - 1) * (api.MaxCoef + i) }),
		filled(func(int) int { return math.MinInt }),
		filled(func(int) int { return math.MaxInt }),
	}
	for seed := range 50 {
		out = append(out, mixed(seed))
	}
	return out
}

func TestOrderEnds(t *testing.T) {
	l := Order()
	if len(l) != 64 {
		t.Fatalf("got %d indices", len(l))
	}
	if first := []int{0, 1, 8, 16, 9, 2, 3, 10, 17, 24, 32, 25, 18, 11, 4, 5}; !slices.Equal(l[:16], first) {
		t.Errorf("got %v first, want %v", l[:16], first)
	}
	if last := []int{58, 59, 52, 45, 38, 31, 39, 46, 53, 60, 61, 54, 47, 55, 62, 63}; !slices.Equal(l[48:], last) {
		t.Errorf("got %v last, want %v", l[48:], last)
	}
}

func TestOrderAsWritten(t *testing.T) {
	if l, want := Order(), modelOrder(); !slices.Equal(l, want) {
		t.Errorf("got %v, want %v", l, want)
	}
}

func TestOrderHasEachIndexOnce(t *testing.T) {
	l := slices.Sorted(slices.Values(Order()))
	for i := range 64 {
		if len(l) != 64 || l[i] != i {
			t.Fatalf("the sorted indices are %v", l)
		}
	}
}

// The diagonals follow each other, and each one has its direction.
func TestOrderFollowsDiagonals(t *testing.T) {
	l := Order()
	if len(l) != 64 {
		t.Fatalf("got %d indices", len(l))
	}
	at := 0
	for sum := range 15 {
		size := min(sum+1, 15-sum)
		for k := range size {
			fromTop := k
			if sum%2 == 0 {
				fromTop = size - 1 - k
			}
			row := max(0, sum-7) + fromTop
			if want := 8*row + sum - row; l[at] != want {
				t.Errorf("at %d: got the index %d, want %d in the diagonal %d", at, l[at], want, sum)
			}
			at++
		}
	}
	if at != 64 {
		t.Errorf("the diagonals have %d indices", at)
	}
}

func TestToTakesNumbersInOrder(t *testing.T) {
	order := modelOrder()
	for _, b := range samples() {
		x := To(b)
		for i, at := range order {
			if x[i] != b[at] {
				t.Errorf("To(%v): number %d is %d, want %d", b, i, x[i], b[at])
			}
		}
	}
}

func TestFromPutsNumbersInOrder(t *testing.T) {
	order := modelOrder()
	for _, b := range samples() {
		x := From(b)
		for i, at := range order {
			if x[at] != b[i] {
				t.Errorf("From(%v): number %d is %d, want %d", b, at, x[at], b[i])
			}
		}
	}
}

func TestInverse(t *testing.T) {
	for _, b := range samples() {
		if x := From(To(b)); x != b {
			t.Errorf("From(To(b)): got %v, want %v", x, b)
		}
		if x := To(From(b)); x != b {
			t.Errorf("To(From(b)): got %v, want %v", x, b)
		}
	}
}

// A single number moves to its one place, and nothing else appears.
func TestSingleNumber(t *testing.T) {
	for i, at := range modelOrder() {
		for _, n := range []int{1, -1, 2047, -2047, math.MaxInt, math.MinInt} {
			var block, line api.Block
			block[at], line[i] = n, n
			if x := To(block); x != line {
				t.Errorf("To, %d at the index %d: got %v", n, at, x)
			}
			if x := From(line); x != block {
				t.Errorf("From, %d at the index %d: got %v", n, i, x)
			}
		}
	}
}

// To and From are different functions: the order is not its own inverse.
func TestToIsNotFrom(t *testing.T) {
	b := filled(func(i int) int { return i })
	if x := To(b); x[2] != 8 || x[3] != 16 || x[5] != 2 {
		t.Errorf("To: got %v", x)
	}
	if x := From(b); x[2] != 5 || x[3] != 6 || x[8] != 2 || x[16] != 3 {
		t.Errorf("From: got %v", x)
	}
}

// P2: a result belongs to the caller, with its capacity.
func TestOrderIsNew(t *testing.T) {
	want := modelOrder()
	first, second := Order(), Order()
	overwrite(second)
	if !slices.Equal(first, want) {
		t.Errorf("two results share memory: %v", first)
	}
	overwrite(first)
	if l := Order(); !slices.Equal(l, want) {
		t.Errorf("a changed result shows in a later one: %v", l)
	}
	b := filled(func(i int) int { return i })
	if x := To(b); !slices.Equal(x[:], want) {
		t.Errorf("a changed result shows in To: %v", x)
	}
	if x := From(To(b)); x != b {
		t.Errorf("a changed result shows in From: %v", x)
	}
}

// overwrite sets all elements of l, including those of its unused capacity.
func overwrite(l []int) {
	l = l[:cap(l)]
	for i := range l {
		l[i] = -7
	}
}

// P2: a block remains as it is, and what the caller does to it later does not show in a result.
func TestBlocksUnchanged(t *testing.T) {
	for _, f := range []func(api.Block) api.Block{To, From} {
		for _, b := range samples() {
			same := b
			x := f(b)
			if b != same {
				t.Errorf("the argument %v became %v", same, b)
			}
			result := x
			b[5], b[63] = 12345, -12345
			if x != result {
				t.Error("the result changes with the argument")
			}
			if f(same) != result {
				t.Error("the result depends on an earlier call")
			}
		}
	}
}
