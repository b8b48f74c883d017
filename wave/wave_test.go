package wave

import (
	"math"
	"testing"

	"mezzotint/api"
)

// functions are the two that transform a block.
var functions = []struct {
	name string
	call func(api.Block) (api.Block, api.Errno)
	sum  func(b api.Block, row, column int) int
}{
	{"To", To, sumTo},
	{"From", From, sumFrom},
}

// places are the first, some middle and the last indices of a block.
var places = []int{0, 1, 7, 8, 27, 31, 36, 56, 62, 63}

// half is the smallest sum that is rounded to 1.
const half = 1 << 25

// all returns the block in which all numbers are n.
func all(n int) api.Block {
	return filled(func(int) int { return n })
}

// filled returns the block whose number i is f(i).
func filled(f func(i int) int) api.Block {
	var b api.Block
	for i := range b {
		b[i] = f(i)
	}
	return b
}

// with returns b with n at the index i.
func with(b api.Block, i, n int) api.Block {
	b[i] = n
	return b
}

// numbers gives numbers without a pattern, the same ones in each run.
type numbers struct{ state uint32 }

// between returns the next number, which is in [low, high].
func (s *numbers) between(low, high int) int {
	s.state = s.state*1664525 + 1013904223
	return low + int(s.state>>8)%(high-low+1)
}

// block returns a block of such numbers.
func (s *numbers) block(low, high int) api.Block {
	return filled(func(int) int { return s.between(low, high) })
}

// c is the basis function, written out for all 64 pairs of u and x.
func c(u, x int) int {
	return [8][8]int{
		{2896, 2896, 2896, 2896, 2896, 2896, 2896, 2896},
		{4017, 3406, 2276, 799, -799, -2276, -3406, -4017},
		{3784, 1567, -1567, -3784, -3784, -1567, 1567, 3784},
		{3406, -799, -4017, -2276, 2276, 4017, 799, -3406},
		{2896, -2896, -2896, 2896, 2896, -2896, -2896, 2896},
		{2276, -4017, 799, 3406, -3406, -799, 4017, -2276},
		{1567, -3784, 3784, -1567, -1567, 3784, -3784, 1567},
		{799, -2276, 3406, -4017, 4017, -3406, 2276, -799},
	}[u][x]
}

// sumTo returns the sum of To at row v and column u before it is rounded, as the document writes it.
func sumTo(b api.Block, v, u int) int {
	sum := 0
	for y := range 8 {
		for x := range 8 {
			sum += b[8*y+x] * c(u, x) * c(v, y)
		}
	}
	return sum
}

// sumFrom returns the sum of From at row y and column x before it is rounded, as the document writes it.
func sumFrom(b api.Block, y, x int) int {
	sum := 0
	for v := range 8 {
		for u := range 8 {
			sum += b[8*v+u] * c(u, x) * c(v, y)
		}
	}
	return sum
}

// rounded returns the integer nearest to n divided by 2^26, of two the one with the larger absolute value.
func rounded(n int) int {
	if n < 0 {
		return -rounded(-n)
	}
	return (n + half) >> 26
}

// model returns the block of the rounded sums.
func model(b api.Block, sum func(b api.Block, row, column int) int) api.Block {
	return filled(func(i int) int { return rounded(sum(b, i/8, i%8)) })
}

// wantError fails unless a function returned ErrArg and the zero block.
func wantError(t *testing.T, name string, x api.Block, e api.Errno) {
	t.Helper()
	if e != api.ErrArg || x != (api.Block{}) {
		t.Errorf("%s: got %v and the error %d, want the zero block and ErrArg", name, x, e)
	}
}

// wantBlock fails unless a function returned the block and no error.
func wantBlock(t *testing.T, name string, x api.Block, e api.Errno, want api.Block) {
	t.Helper()
	if e != api.OK || x != want {
		t.Errorf("%s: got %v and the error %d, want %v", name, x, e, want)
	}
}

// P11, by the document's rule.
func TestBasisByRule(t *testing.T) {
	w := []int{4096, 4017, 3784, 3406, 2896, 2276, 1567, 799, 0}
	for k := 9; k <= 16; k++ {
		w = append(w, -w[16-k])
	}
	for k := 17; k <= 31; k++ {
		w = append(w, w[32-k])
	}
	for u := range 8 {
		for x := range 8 {
			want := 2896
			if u > 0 {
				want = w[u*(2*x+1)%32]
			}
			if n, e := Basis(u, x); n != want || e != api.OK {
				t.Errorf("Basis(%d, %d): got %d and the error %d, want %d", u, x, n, e, want)
			}
		}
	}
}

func TestBasisWrittenOut(t *testing.T) {
	for u := range 8 {
		for x := range 8 {
			if n, e := Basis(u, x); n != c(u, x) || e != api.OK {
				t.Errorf("Basis(%d, %d): got %d and the error %d, want %d", u, x, n, e, c(u, x))
			}
		}
	}
}

// The values approximate cosines.
func TestBasisNearCosine(t *testing.T) {
	for u := range 8 {
		for x := range 8 {
			want := 4096 * math.Cos(float64(u*(2*x+1))*math.Pi/16)
			if u == 0 {
				want /= math.Sqrt2
			}
			if n, e := Basis(u, x); math.Abs(float64(n)-want) > 0.5 || e != api.OK {
				t.Errorf("Basis(%d, %d): got %d and the error %d, want nearly %f", u, x, n, e, want)
			}
		}
	}
}

func TestBasisErrors(t *testing.T) {
	wrong := []int{-1, 8, -2, 9, -7, -8, 15, 16, 32, 256, 1 << 32, 1<<32 + 1, 1 << 62, math.MinInt32, math.MaxInt32, math.MinInt, math.MinInt + 1, math.MaxInt}
	reject := func(u, x int) {
		t.Helper()
		if n, e := Basis(u, x); n != 0 || e != api.ErrArg {
			t.Errorf("Basis(%d, %d): got %d and the error %d, want 0 and ErrArg", u, x, n, e)
		}
	}
	for _, n := range wrong {
		for right := range 8 {
			reject(n, right)
			reject(right, n)
		}
		for _, other := range wrong {
			reject(n, other)
		}
	}
}

// P12, by the document's example.
func TestExample(t *testing.T) {
	x, e := To(all(100))
	wantBlock(t, "To of all 100", x, e, api.Block{800})
	x, e = From(api.Block{800})
	wantBlock(t, "From of 800", x, e, all(100))
}

func TestZeroBlock(t *testing.T) {
	for _, f := range functions {
		x, e := f.call(api.Block{})
		wantBlock(t, f.name+" of zeros", x, e, api.Block{})
	}
}

// A single number at each place: rows and columns, and the two functions, give different blocks.
func TestSingleNumbers(t *testing.T) {
	for i := range 64 {
		for _, n := range []int{1, -1, 8, -9, 1000, -1000, 40000, -40000} {
			b := with(api.Block{}, i, n)
			x, e := To(b)
			wantBlock(t, "To", x, e, filled(func(k int) int { return rounded(n * c(k%8, i%8) * c(k/8, i/8)) }))
			x, e = From(b)
			wantBlock(t, "From", x, e, filled(func(k int) int { return rounded(n * c(i%8, k%8) * c(i/8, k/8)) }))
		}
	}
}

// Rows that are all the same have waves along the rows only; columns that are all the same, along the columns only.
func TestRowsAndColumns(t *testing.T) {
	rows, e := To(filled(func(i int) int { return 100 * (i % 8) }))
	columns, f := To(filled(func(i int) int { return 100 * (i / 8) }))
	if e != api.OK || f != api.OK {
		t.Fatalf("got the errors %d and %d", e, f)
	}
	for i := range 64 {
		if i >= 8 && rows[i] != 0 || i%8 > 0 && columns[i] != 0 || rows[i] != columns[i%8*8+i/8] {
			t.Errorf("index %d: got %d for rows and %d for columns", i, rows[i], columns[i])
		}
	}
	if rows[0] != 2799 || rows[1] != -1822 || columns[8] != -1822 {
		t.Errorf("got %v for rows and %v for columns", rows, columns)
	}
	x, e := From(api.Block{1: 1000})
	wantBlock(t, "From of a wave along the rows", x, e, filled(func(i int) int { return rounded(1000 * c(1, i%8) * 2896) }))
	x, e = From(api.Block{8: 1000})
	wantBlock(t, "From of a wave along the columns", x, e, filled(func(i int) int { return rounded(1000 * c(1, i/8) * 2896) }))
}

func TestManyNumbers(t *testing.T) {
	var s numbers
	for _, f := range functions {
		for _, limit := range []int{1, 2, 10, 128, 1024, 2047, 40000} {
			for range 100 {
				b := s.block(-limit, limit)
				x, e := f.call(b)
				wantBlock(t, f.name, x, e, model(b, f.sum))
			}
		}
	}
}

// A few numbers among zeros, so that each of them shows.
func TestFewNumbers(t *testing.T) {
	var s numbers
	for _, f := range functions {
		for range 300 {
			var b api.Block
			for range s.between(1, 5) {
				b[s.between(0, 63)] = s.between(-40000, 40000)
			}
			x, e := f.call(b)
			wantBlock(t, f.name, x, e, model(b, f.sum))
		}
	}
}

// Sums at a half are rounded away from zero; sums beside it, to the nearer integer.
func TestHalves(t *testing.T) {
	// 131072 times the square of 2896 is 16380 and a half.
	x, e := To(all(2048))
	wantBlock(t, "To at a half", x, e, api.Block{16381})
	x, e = To(all(-2048))
	wantBlock(t, "To at a negative half", x, e, api.Block{-16381})
	for _, i := range places {
		for _, sign := range []int{1, -1} {
			if x, e = To(with(all(2048*sign), i, 2047*sign)); x[0] != 16380*sign || e != api.OK {
				t.Errorf("To below a half: got %d and the error %d", x[0], e)
			}
			if x, e = To(with(all(2048*sign), i, 2049*sign)); x[0] != 16381*sign || e != api.OK {
				t.Errorf("To above a half: got %d and the error %d", x[0], e)
			}
		}
	}
	// Four waves that are equal at the first place.
	for _, sign := range []int{1, -1} {
		for _, step := range []struct{ n, want int }{{32767, 16380}, {32768, 16381}, {32769, 16381}} {
			x, e = From(api.Block{0: step.n * sign, 4: 32768 * sign, 32: 32768 * sign, 36: 32768 * sign})
			if x[0] != step.want*sign || e != api.OK {
				t.Errorf("From of %d: got %d and the error %d, want %d", step.n*sign, x[0], e, step.want*sign)
			}
		}
	}
}

// nearHalf counts how many of the sums of b lie within the distance of a half.
func nearHalf(b api.Block, sum func(b api.Block, row, column int) int, distance int) int {
	count := 0
	for i := range b {
		if d := (sum(b, i/8, i%8)-half)&(1<<26-1) - half; max(d, -d) >= half-distance {
			count++
		}
	}
	return count
}

// Sums so near to a half that rounding an intermediate sum to any coarser unit would show.
func TestNearHalves(t *testing.T) {
	var s numbers
	for _, f := range functions {
		found := 0
		for range 20000 {
			b := with(with(api.Block{}, s.between(0, 63), s.between(-40000, 40000)), s.between(0, 63), s.between(-40000, 40000))
			if nearHalf(b, f.sum, 2000) == 0 {
				continue
			}
			found++
			x, e := f.call(b)
			wantBlock(t, f.name+" near a half", x, e, model(b, f.sum))
			for i := range b {
				b[i] = -b[i]
			}
			x, e = f.call(b)
			wantBlock(t, f.name+" near a negative half", x, e, model(b, f.sum))
		}
		if found < 20 {
			t.Errorf("%s: only %d blocks have sums near a half", f.name, found)
		}
	}
}

// Sixty-four numbers that are rounded to 0 each, but not together.
func TestOnlyCompleteSumRounded(t *testing.T) {
	x, e := To(all(1))
	wantBlock(t, "To of all 1", x, e, api.Block{8})
	x, e = To(all(-1))
	wantBlock(t, "To of all -1", x, e, api.Block{-8})
	x, e = From(filled(func(i int) int {
		if i%8%4 == 0 && i/8%4 == 0 {
			return 1
		}
		return 0
	}))
	if x[0] != 0 || e != api.OK { // four times nearly an eighth: still less than a half
		t.Errorf("got %d and the error %d, want 0", x[0], e)
	}
	for _, n := range []int{1, -1} {
		b := filled(func(i int) int {
			if c(i%8, 0)*c(i/8, 0) < 0 {
				return -n
			}
			return n
		})
		x, e = From(b)
		wantBlock(t, "From of small numbers", x, e, model(b, sumFrom))
		if x[0] == 0 {
			t.Error("small numbers do not add up")
		}
	}
}

func TestBounds(t *testing.T) {
	for _, f := range functions {
		for i := range 64 {
			for _, n := range []int{-40000, -39999, 39999, 40000} {
				b := with(all(7), i, n)
				x, e := f.call(b)
				wantBlock(t, f.name+" of a number at a bound", x, e, model(b, f.sum))
			}
			for _, n := range []int{-40001, 40001, -40002, 65536, 1 << 32, -1 << 32, 1 << 62, 1<<63 - 100, math.MinInt32, math.MaxInt32, math.MinInt, math.MinInt + 1, math.MaxInt} {
				x, e := f.call(with(all(7), i, n))
				wantError(t, f.name+" of a number beyond a bound", x, e)
				x, e = f.call(with(api.Block{}, i, n))
				wantError(t, f.name+" of a number beyond a bound among zeros", x, e)
			}
		}
		for _, n := range []int{-40001, 40001, math.MinInt, math.MaxInt} {
			x, e := f.call(all(n))
			wantError(t, f.name+" of all numbers beyond a bound", x, e)
			x, e = f.call(with(with(api.Block{}, 3, n), 60, -40001))
			wantError(t, f.name+" of two numbers beyond a bound", x, e)
		}
	}
}

// The largest numbers: results are not limited to what may be transformed.
func TestLargest(t *testing.T) {
	x, e := To(all(40000))
	wantBlock(t, "To of all 40000", x, e, api.Block{rounded(64 * 40000 * 2896 * 2896)})
	x, e = To(all(-40000))
	wantBlock(t, "To of all -40000", x, e, api.Block{-rounded(64 * 40000 * 2896 * 2896)})
	if x[0] >= -300000 {
		t.Errorf("got %d, which is too near to 0", x[0])
	}
	for _, f := range functions {
		for _, turns := range []func(i int) int{
			func(i int) int { return 1 },
			func(i int) int { return -1 },
			func(i int) int { return 1 - 2*(i%2) },
			func(i int) int { return 1 - 2*(i/8%2) },
			func(i int) int { return 1 - 2*((i/8+i%8)%2) },
			func(i int) int { return 2*(i/32) - 1 },
		} {
			b := filled(func(i int) int { return 40000 * turns(i) })
			x, e := f.call(b)
			wantBlock(t, f.name, x, e, model(b, f.sum))
		}
		// For each place, the block whose sum there is the largest.
		for at := range 64 {
			b := filled(func(i int) int {
				if f.sum(with(api.Block{}, i, 1), at/8, at%8) < 0 {
					return -40000
				}
				return 40000
			})
			x, e := f.call(b)
			wantBlock(t, f.name+" of a largest sum", x, e, model(b, f.sum))
		}
	}
}

// From restores what To transformed, up to what both lose by rounding.
func TestFromOfTo(t *testing.T) {
	var s numbers
	for range 200 {
		b := s.block(-128, 127)
		x, e := To(b)
		y, f := From(x)
		if e != api.OK || f != api.OK {
			t.Fatalf("got the errors %d and %d", e, f)
		}
		for i := range b {
			if d := y[i] - b[i]; d < -2 || d > 2 {
				t.Errorf("%d at the index %d is restored as %d", b[i], i, y[i])
			}
		}
	}
}

// P2: blocks remain as they are, and a result depends on nothing but the argument of its call.
func TestArgumentsUnchanged(t *testing.T) {
	var s numbers
	for _, f := range functions {
		b := s.block(-40000, 40000)
		same := b
		x, e := f.call(b)
		if b != same {
			t.Errorf("%s: the argument has changed", f.name)
		}
		result := x
		wrong := with(b, 5, math.MaxInt)
		if f.call(wrong); wrong != with(same, 5, math.MaxInt) {
			t.Errorf("%s: a wrong argument has changed", f.name)
		}
		f.call(all(1))
		b[3] = 1
		if x != result {
			t.Errorf("%s: the result changes with its argument", f.name)
		}
		x[7] = 12345
		if again, other := f.call(same); again != result || other != e || e != api.OK {
			t.Errorf("%s: the result depends on an earlier call: errors %d and %d", f.name, e, other)
		}
	}
	for range 3 {
		Basis(-1, math.MaxInt)
		if n, e := Basis(3, 1); n != -799 || e != api.OK {
			t.Errorf("Basis(3, 1): got %d and the error %d", n, e)
		}
	}
}
