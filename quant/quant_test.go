package quant

import (
	"math"
	"testing"

	"mezzotint/api"
)

// places are the first, some middle and the last indices of a block.
var places = []int{0, 1, 7, 8, 31, 62, 63}

// all returns the block in which all numbers are n.
func all(n int) api.Block {
	return filled(func(int) int { return n })
}

// filled returns the block whose number i is f(i).
func filled(f func(i int) int) api.Block {
	var b api.Block
	for i := range b {
		b[i] = f(i)
	}
	return b
}

// with returns b with n at the index i.
func with(b api.Block, i, n int) api.Block {
	b[i] = n
	return b
}

// numbers gives numbers without a pattern, the same ones in each run.
type numbers struct{ state uint32 }

// between returns the next number, which is in [low, high].
func (s *numbers) between(low, high int) int {
	s.state = s.state*1664525 + 1013904223
	return low + int(s.state>>8)%(high-low+1)
}

// block returns a block of such numbers.
func (s *numbers) block(low, high int) api.Block {
	return filled(func(int) int { return s.between(low, high) })
}

// nearest searches the integer nearest to n/d as the document defines it: by the distances of the integers, not by a division.
func nearest(n, d int) int {
	distance := func(k int) int { return max(n-k*d, k*d-n) }
	size := func(k int) int { return max(k, -k) }
	best := n/d - 2
	for k := n/d - 1; k <= n/d+2; k++ {
		if distance(k) < distance(best) || distance(k) == distance(best) && size(k) > size(best) {
			best = k
		}
	}
	return best
}

// limited returns n limited to [low, high].
func limited(n, low, high int) int {
	if n < low {
		return low
	}
	if n > high {
		return high
	}
	return n
}

// wantError fails unless a function returned the error and the zero block.
func wantError(t *testing.T, name string, x api.Block, e, want api.Errno) {
	t.Helper()
	if e != want || x != (api.Block{}) {
		t.Errorf("%s: got %v and the error %d, want the zero block and the error %d", name, x, e, want)
	}
}

// wantBlock fails unless a function returned the block and no error.
func wantBlock(t *testing.T, name string, x api.Block, e api.Errno, want api.Block) {
	t.Helper()
	if e != api.OK || x != want {
		t.Errorf("%s: got %v and the error %d, want %v", name, x, e, want)
	}
}

// wrongSteps are numbers that no quantization block has.
var wrongSteps = []int{0, -1, 256, 257, -255, 1000, 65537, math.MinInt, math.MaxInt, math.MinInt32, math.MaxInt32, 1<<32 + 1, 1<<63 - 256}

func TestCheckAccepts(t *testing.T) {
	for n := 1; n <= 255; n++ {
		if e := Check(all(n)); e != api.OK {
			t.Errorf("all %d: got the error %d", n, e)
		}
		for i := range 64 {
			if e := Check(with(all(16), i, n)); e != api.OK {
				t.Errorf("%d at the index %d: got the error %d", n, i, e)
			}
		}
	}
	if e := Check(filled(func(i int) int { return 1 + i*254/63 })); e != api.OK {
		t.Errorf("different numbers: got the error %d", e)
	}
}

func TestCheckRejects(t *testing.T) {
	for _, n := range wrongSteps {
		if e := Check(all(n)); e != api.ErrArg {
			t.Errorf("all %d: got the error %d", n, e)
		}
		for i := range 64 {
			if e := Check(with(all(16), i, n)); e != api.ErrArg {
				t.Errorf("%d at the index %d: got the error %d", n, i, e)
			}
		}
	}
	if e := Check(api.Block{}); e != api.ErrArg {
		t.Errorf("the zero block: got the error %d", e)
	}
}

func TestDownExample(t *testing.T) {
	x, e := Down(api.Block{5, -5}, all(2))
	wantBlock(t, "5 and -5 by 2", x, e, api.Block{3, -3})
}

func TestDownRounds(t *testing.T) {
	for _, c := range []struct{ n, d, want int }{
		{0, 1, 0}, {1, 1, 1}, {-1, 1, -1}, {7, 1, 7}, {-7, 1, -7},
		{1, 2, 1}, {-1, 2, -1}, {2, 2, 1}, {3, 2, 2}, {-3, 2, -2}, {4, 2, 2},
		{1, 3, 0}, {2, 3, 1}, {-1, 3, 0}, {-2, 3, -1}, {4, 3, 1}, {5, 3, 2}, {-4, 3, -1}, {-5, 3, -2},
		{1, 4, 0}, {2, 4, 1}, {3, 4, 1}, {5, 4, 1}, {6, 4, 2}, {-1, 4, 0}, {-2, 4, -1}, {-6, 4, -2},
		{2, 5, 0}, {3, 5, 1}, {7, 5, 1}, {8, 5, 2}, {-2, 5, 0}, {-3, 5, -1},
		{126, 254, 0}, {127, 254, 1}, {128, 254, 1}, {-126, 254, 0}, {-127, 254, -1},
		{127, 255, 0}, {128, 255, 1}, {382, 255, 1}, {383, 255, 2}, {-127, 255, 0}, {-128, 255, -1}, {-382, 255, -1}, {-383, 255, -2},
		{40000, 255, 157}, {-40000, 255, -157}, {40000, 20, 2000}, {-40000, 20, -2000},
	} {
		x, e := Down(all(c.n), all(c.d))
		if x != all(c.want) || e != api.OK {
			t.Errorf("%d by %d: got %d and the error %d, want %d", c.n, c.d, x[0], e, c.want)
		}
	}
}

// Below, at and above each half, for all numbers of q and both signs.
func TestDownAtHalves(t *testing.T) {
	for d := 1; d <= 255; d++ {
		for k := range 60 {
			low := (2*k + 1) * d / 2 // for an odd d the half lies between this number and the next one
			for n := low - 1; n <= low+2; n++ {
				want := limited(nearest(n, d), -2047, 2047)
				x, e := Down(api.Block{n, -n}, all(d))
				if x != (api.Block{want, -want}) || e != api.OK {
					t.Errorf("%d and %d by %d: got %d, %d and the error %d, want %d", n, -n, d, x[0], x[1], e, want)
				}
			}
		}
	}
}

// All numbers that b may have, by some numbers of q.
func TestDownAllNumbers(t *testing.T) {
	for _, d := range []int{1, 2, 3, 16, 17, 19, 20, 99, 254, 255} {
		for first := -40000; first <= 40000; first += 64 {
			b := filled(func(i int) int { return min(first+i, 40000) })
			x, e := Down(b, all(d))
			want := filled(func(i int) int { return limited(nearest(b[i], d), -2047, 2047) })
			if x != want || e != api.OK {
				t.Fatalf("numbers from %d on by %d: got %v and the error %d, want %v", first, d, x, e, want)
			}
		}
	}
}

func TestDownClamps(t *testing.T) {
	for _, c := range []struct{ n, d, want int }{
		{2046, 1, 2046}, {2047, 1, 2047}, {2048, 1, 2047}, {40000, 1, 2047},
		{-2046, 1, -2046}, {-2047, 1, -2047}, {-2048, 1, -2047}, {-40000, 1, -2047},
		{4092, 2, 2046}, {4093, 2, 2047}, {4094, 2, 2047}, {4095, 2, 2047}, {4096, 2, 2047},
		{-4092, 2, -2046}, {-4093, 2, -2047}, {-4095, 2, -2047},
		{40000, 19, 2047}, {-40000, 19, -2047}, {38883, 19, 2046}, {-38883, 19, -2046}, {38884, 19, 2047}, {-38884, 19, -2047},
	} {
		x, e := Down(all(c.n), all(c.d))
		if x != all(c.want) || e != api.OK {
			t.Errorf("%d by %d: got %d and the error %d, want %d", c.n, c.d, x[0], e, c.want)
		}
	}
}

func TestDownBounds(t *testing.T) {
	for _, i := range places {
		for _, n := range []int{-40000, 40000} {
			x, e := Down(with(api.Block{}, i, n), all(200))
			wantBlock(t, "a number at a bound", x, e, with(api.Block{}, i, n/200))
		}
		for _, n := range []int{-40001, 40001, -80000, 1 << 32, 1<<63 - 100, math.MinInt, math.MinInt + 1, math.MaxInt, math.MinInt32, math.MaxInt32} {
			x, e := Down(with(all(3), i, n), all(200))
			wantError(t, "a number beyond a bound", x, e, api.ErrArg)
		}
	}
}

func TestDownErrorOfSteps(t *testing.T) {
	for _, n := range wrongSteps {
		for _, i := range places {
			q := with(all(16), i, n)
			x, e := Down(all(3), q)
			wantError(t, "Down by a wrong block", x, e, Check(q))
			x, e = Down(with(all(3), i, 40001), q)
			wantError(t, "Down of a wrong block by a wrong block", x, e, Check(q))
		}
	}
}

func TestUpProducts(t *testing.T) {
	for _, c := range []struct{ n, d, want int }{
		{0, 1, 0}, {0, 255, 0}, {1, 1, 1}, {-1, 1, -1}, {3, 7, 21}, {-3, 7, -21}, {1, 255, 255}, {-1, 255, -255},
		{2047, 1, 2047}, {-2047, 1, -2047}, {2047, 19, 38893}, {-2047, 19, -38893},
		{2000, 20, 40000}, {-2000, 20, -40000}, {1999, 20, 39980}, {2001, 20, 40000}, {-2001, 20, -40000},
		{1600, 25, 40000}, {-1600, 25, -40000}, {250, 160, 40000}, {201, 199, 39999}, {-201, 199, -39999}, {1667, 24, 40000}, {-1667, 24, -40000},
		{157, 255, 40000}, {156, 255, 39780}, {-157, 255, -40000}, {-156, 255, -39780},
		{2047, 255, 40000}, {-2047, 255, -40000}, {2047, 20, 40000}, {-2047, 20, -40000},
	} {
		x, e := Up(all(c.n), all(c.d))
		if x != all(c.want) || e != api.OK {
			t.Errorf("%d times %d: got %d and the error %d, want %d", c.n, c.d, x[0], e, c.want)
		}
	}
}

// All numbers that b may have, by all numbers of q.
func TestUpAllNumbers(t *testing.T) {
	for d := 1; d <= 255; d++ {
		for first := -2047; first <= 2047; first += 64 {
			b := filled(func(i int) int { return min(first+i, 2047) })
			x, e := Up(b, all(d))
			want := filled(func(i int) int { return limited(b[i]*d, -40000, 40000) })
			if x != want || e != api.OK {
				t.Fatalf("numbers from %d on times %d: got %v and the error %d, want %v", first, d, x, e, want)
			}
		}
	}
}

func TestUpBounds(t *testing.T) {
	for _, i := range places {
		for _, n := range []int{-2047, 2047} {
			x, e := Up(with(api.Block{}, i, n), all(3))
			wantBlock(t, "a number at a bound", x, e, with(api.Block{}, i, 3*n))
		}
		for _, n := range []int{-2048, 2048, -40000, 40000, 1 << 32, 1 << 62, math.MinInt, math.MinInt + 1, math.MaxInt, math.MinInt32, math.MaxInt32} {
			x, e := Up(with(all(3), i, n), all(4))
			wantError(t, "a number beyond a bound", x, e, api.ErrArg)
		}
	}
}

func TestUpErrorOfSteps(t *testing.T) {
	for _, n := range wrongSteps {
		for _, i := range places {
			q := with(all(16), i, n)
			x, e := Up(all(3), q)
			wantError(t, "Up by a wrong block", x, e, Check(q))
			x, e = Up(with(all(3), i, 2048), q)
			wantError(t, "Up of a wrong block by a wrong block", x, e, Check(q))
		}
	}
}

func TestScaleRounds(t *testing.T) {
	for _, c := range []struct{ n, percent, want int }{
		{5, 50, 3}, {3, 50, 2}, {4, 50, 2}, {1, 50, 1}, {7, 50, 4}, {255, 50, 128},
		{2, 25, 1}, {6, 25, 2}, {5, 25, 1}, {7, 25, 2}, {10, 25, 3}, {9, 25, 2},
		{10, 14, 1}, {10, 15, 2}, {10, 16, 2}, {150, 1, 2}, {149, 1, 1}, {151, 1, 2}, {250, 1, 3}, {249, 1, 2}, {255, 1, 3},
		{1, 149, 1}, {1, 150, 2}, {1, 249, 2}, {1, 250, 3}, {3, 150, 5}, {17, 100, 17}, {1, 1000, 10}, {25, 1000, 250},
	} {
		x, e := Scale(all(c.n), c.percent)
		if x != all(c.want) || e != api.OK {
			t.Errorf("%d by %d percent: got %d and the error %d, want %d", c.n, c.percent, x[0], e, c.want)
		}
	}
}

func TestScaleClamps(t *testing.T) {
	for _, c := range []struct{ n, percent, want int }{
		{1, 1, 1}, {1, 49, 1}, {49, 1, 1}, {50, 1, 1}, {20, 2, 1}, {255, 1000, 255}, {26, 1000, 255}, {25, 1000, 250},
		{255, 100, 255}, {255, 101, 255}, {255, 99, 252}, {254, 100, 254}, {128, 199, 255}, {128, 200, 255}, {127, 200, 254}, {128, 198, 253}, {200, 300, 255}, {51, 500, 255}, {51, 501, 255},
	} {
		x, e := Scale(all(c.n), c.percent)
		if x != all(c.want) || e != api.OK {
			t.Errorf("%d by %d percent: got %d and the error %d, want %d", c.n, c.percent, x[0], e, c.want)
		}
	}
}

// All numbers of q and all percentages; each result is a quantization block.
func TestScaleAllNumbers(t *testing.T) {
	for percent := 1; percent <= 1000; percent++ {
		for first := 1; first <= 255; first += 64 {
			q := filled(func(i int) int { return min(first+i, 255) })
			x, e := Scale(q, percent)
			want := filled(func(i int) int { return limited(nearest(q[i]*percent, 100), 1, 255) })
			if x != want || e != api.OK || Check(x) != api.OK {
				t.Fatalf("numbers from %d on by %d percent: got %v and the error %d, want %v", first, percent, x, e, want)
			}
		}
	}
}

func TestScaleHundredPercent(t *testing.T) {
	q := filled(func(i int) int { return 255 - 4*i })
	x, e := Scale(q, 100)
	wantBlock(t, "100 percent", x, e, q)
}

func TestScaleErrors(t *testing.T) {
	for _, percent := range []int{0, -1, 1001, -100, 1002, 65636, 1<<32 + 100, math.MinInt, math.MaxInt, math.MinInt32, math.MaxInt32} {
		x, e := Scale(all(16), percent)
		wantError(t, "a wrong percentage", x, e, api.ErrArg)
	}
	for _, n := range wrongSteps {
		for _, i := range places {
			q := with(all(16), i, n)
			for _, percent := range []int{1, 100, 1000, 0, 1001, math.MinInt, math.MaxInt} {
				x, e := Scale(q, percent)
				wantError(t, "Scale of a wrong block", x, e, Check(q))
			}
		}
	}
}

// Each place takes its own number of q and of b.
func TestPlaces(t *testing.T) {
	b := filled(func(i int) int { return 100 - 3*i })
	q := filled(func(i int) int { return 1 + 4*i })
	x, e := Down(b, q)
	wantBlock(t, "Down", x, e, filled(func(i int) int { return nearest(b[i], q[i]) }))
	x, e = Up(b, q)
	wantBlock(t, "Up", x, e, filled(func(i int) int { return b[i] * q[i] }))
	x, e = Scale(q, 37)
	wantBlock(t, "Scale", x, e, filled(func(i int) int { return max(1, nearest(q[i]*37, 100)) }))
	for i := range 64 {
		x, e = Down(with(api.Block{}, i, 90), with(all(1), i, 9))
		wantBlock(t, "Down of a single number", x, e, with(api.Block{}, i, 10))
		x, e = Up(with(api.Block{}, i, 90), with(all(1), i, 9))
		wantBlock(t, "Up of a single number", x, e, with(api.Block{}, i, 810))
		x, e = Scale(with(all(10), i, 20), 200)
		wantBlock(t, "Scale of a single number", x, e, with(all(20), i, 40))
	}
}

func TestMixedBlocks(t *testing.T) {
	var s numbers
	for range 500 {
		b, c, q, percent := s.block(-40000, 40000), s.block(-2047, 2047), s.block(1, 255), s.between(1, 1000)
		x, e := Down(b, q)
		wantBlock(t, "Down", x, e, filled(func(i int) int { return limited(nearest(b[i], q[i]), -2047, 2047) }))
		x, e = Up(c, q)
		wantBlock(t, "Up", x, e, filled(func(i int) int { return limited(c[i]*q[i], -40000, 40000) }))
		x, e = Scale(q, percent)
		wantBlock(t, "Scale", x, e, filled(func(i int) int { return limited(nearest(q[i]*percent, 100), 1, 255) }))
	}
}

// What Down rounds, Up restores up to half a step wherever neither clamps.
func TestUpOfDown(t *testing.T) {
	var s numbers
	for range 200 {
		b, q := s.block(-2000, 2000), s.block(1, 255)
		down, e := Down(b, q)
		up, f := Up(down, q)
		if e != api.OK || f != api.OK {
			t.Fatalf("got the errors %d and %d", e, f)
		}
		for i := range b {
			if d := up[i] - b[i]; 2*max(d, -d) > q[i] {
				t.Errorf("%d by %d is restored as %d", b[i], q[i], up[i])
			}
		}
	}
}

func TestRound(t *testing.T) {
	for n := -300; n <= 300; n++ {
		for d := 1; d <= 70; d++ {
			if x := Round(n, d); x != nearest(n, d) {
				t.Errorf("%d by %d: got %d, want %d", n, d, x, nearest(n, d))
			}
		}
	}
	for _, c := range []struct{ n, d, want int }{
		{math.MaxInt, 1, math.MaxInt}, {math.MinInt, 1, math.MinInt},
		{math.MaxInt, 2, 1 << 62}, {math.MinInt, 2, -1 << 62}, {math.MinInt + 1, 2, -1 << 62},
		{math.MaxInt, math.MaxInt, 1}, {math.MinInt, math.MaxInt, -1}, {1 << 62, math.MaxInt, 1}, {1<<62 - 1, math.MaxInt, 0},
		{-1 << 62, math.MaxInt, -1}, {1 - 1<<62, math.MaxInt, 0},
		{5, 0, 0}, {5, -2, 0}, {math.MinInt, -1, 0}, {math.MaxInt, math.MinInt, 0},
	} {
		if x := Round(c.n, c.d); x != c.want {
			t.Errorf("%d by %d: got %d, want %d", c.n, c.d, x, c.want)
		}
	}
}

// P2: blocks remain as they are, and a result depends on nothing but the arguments of its call.
func TestArgumentsUnchanged(t *testing.T) {
	var s numbers
	for _, f := range []func(b, q api.Block) (api.Block, api.Errno){
		Down,
		Up,
		func(_, q api.Block) (api.Block, api.Errno) { return Scale(q, 150) },
		func(_, q api.Block) (api.Block, api.Errno) { return api.Block{}, Check(q) },
	} {
		b, q := s.block(-2047, 2047), s.block(1, 255)
		sameB, sameQ := b, q
		x, e := f(b, q)
		if b != sameB || q != sameQ {
			t.Error("an argument has changed")
		}
		result := x
		f(with(b, 5, math.MaxInt), q)
		f(b, with(q, 5, math.MinInt))
		f(api.Block{}, all(1))
		b[3], q[3] = 1, 1
		if x != result {
			t.Error("the result changes with an argument")
		}
		if again, other := f(sameB, sameQ); again != result || other != e || e != api.OK {
			t.Errorf("the result depends on an earlier call: errors %d and %d", e, other)
		}
	}
}
