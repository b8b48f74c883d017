package plane

import (
	"slices"
	"testing"

	"mezzotint/api"
	"mezzotint/samples"
)

// P21: planes written out.
func TestJoinWrittenOut(t *testing.T) {
	left := api.Block{0: -118, 1: -108, 7: -1, 8: -88, 9: -78, 15: -2, 56: 5, 63: 6}
	right := api.Block{0: 10, 1: 11, 8: 12, 9: 13, 56: 7, 57: 99}
	expectJoin(t, []api.Block{left}, 3, 2, []int{10, 20, 128, 40, 50, 128})
	expectJoin(t, []api.Block{left, right}, 9, 2, []int{
		10, 20, 128, 128, 128, 128, 128, 127, 138,
		40, 50, 128, 128, 128, 128, 128, 126, 140,
	})
	expectJoin(t, []api.Block{left, right}, 2, 9, []int{10, 20, 40, 50, 128, 128, 128, 128, 128, 128, 128, 128, 128, 128, 133, 128, 138, 139})
	expectJoin(t, []api.Block{left, right, {-1}, {-2}}, 9, 9, append(append([]int{
		10, 20, 128, 128, 128, 128, 128, 127, 138,
		40, 50, 128, 128, 128, 128, 128, 126, 140,
	}, all(45, 128)...), []int{
		133, 128, 128, 128, 128, 128, 128, 134, 135,
		127, 128, 128, 128, 128, 128, 128, 128, 126,
	}...))
}

func TestJoinOfCut(t *testing.T) {
	r := samples.Sequence(23)
	for wide := 1; wide <= 64; wide++ {
		for high := 1; high <= 64; high++ {
			for _, l := range [][]int{mixed(&r, wide*high, 0, 255), all(wide*high, 0), all(wide*high, 255)} {
				b, e := Cut(l, wide, high)
				if e != api.OK {
					t.Fatalf("Cut of %d by %d: got the error %d", wide, high, e)
				}
				expectJoin(t, b, wide, high, l)
			}
		}
	}
}

// Numbers beyond the edge are not seen.
func TestJoinBeyondEdge(t *testing.T) {
	r := samples.Sequence(24)
	eachSize(func(wide, high int) {
		l := mixed(&r, wide*high, 0, 255)
		b, _ := Cut(l, wide, high)
		for _, n := range []int{-40000, 40000, 0, -128, 127} {
			for k, places := range blockPlaces(wide, high) {
				for i, p := range places {
					if p.row >= high || p.column >= wide {
						b[k][i] = n
					}
				}
			}
			expectJoin(t, b, wide, high, l)
		}
	})
}

func TestJoinModel(t *testing.T) {
	r := samples.Sequence(25)
	eachSize(func(wide, high int) {
		for _, limit := range []int{127, 200, 300, 40000} {
			l := blocks(&r, count(wide, high), -limit, limit)
			expectJoin(t, l, wide, high, modelJoin(l, wide, high))
		}
	})
}

func TestJoinClamps(t *testing.T) {
	for _, c := range []struct{ n, want int }{
		{-40000, 0}, {-39999, 0}, {-1000, 0}, {-384, 0}, {-256, 0}, {-130, 0}, {-129, 0}, {-128, 0}, {-127, 1}, {-126, 2}, {-1, 127},
		{0, 128}, {1, 129}, {126, 254}, {127, 255}, {128, 255}, {129, 255}, {255, 255}, {256, 255}, {384, 255}, {1000, 255}, {39999, 255}, {40000, 255},
	} {
		for i := range 64 {
			b := api.Block{}
			b[i] = c.n
			want := all(64, 128)
			want[i] = c.want
			expectJoin(t, []api.Block{b}, 8, 8, want)
		}
		eachSize(func(wide, high int) {
			expectJoin(t, all(count(wide, high), api.Block(all(64, c.n))), wide, high, all(wide*high, c.want))
		})
	}
	for n := -128; n <= 127; n++ {
		expectJoin(t, []api.Block{{n}}, 1, 1, []int{n + 128})
	}
}

// The wrong size comes before a wrong number of blocks and a wrong number.
func TestJoinWrongSizes(t *testing.T) {
	lists := [][]api.Block{nil, {}, {{}}, {{40001}}, make([]api.Block, 8), make([]api.Block, 9), make([]api.Block, 64), make([]api.Block, 72), all(81, api.Block{63: -40001})}
	eachWrongSize(func(wide, high int) {
		for _, l := range lists {
			expectJoinError(t, l, wide, high, api.ErrArg)
		}
	})
	for _, l := range lists {
		expectJoinError(t, l, 65, 64, api.ErrArg)
		expectJoinError(t, l, 64, 65, api.ErrArg)
	}
	expectJoinError(t, nil, 0, 0, api.ErrArg)
}

// A wrong number of blocks comes before a wrong number.
func TestJoinWrongCount(t *testing.T) {
	eachSize(func(wide, high int) {
		right := count(wide, high)
		for _, n := range []int{0, 1, right - 1, right + 1, 2 * right, 64, 65, wide * high} {
			if n == right {
				continue
			}
			expectJoinError(t, make([]api.Block, n), wide, high, api.ErrForm)
			expectJoinError(t, all(n, api.Block{40001}), wide, high, api.ErrForm)
			if n > 0 {
				l := make([]api.Block, n)
				l[n-1][63] = -40001
				expectJoinError(t, l, wide, high, api.ErrForm)
			}
		}
	})
	expectJoinError(t, nil, 1, 1, api.ErrForm)
	expectJoinError(t, []api.Block{}, 64, 64, api.ErrForm)
}

// Each number counts, also one beyond the edge.
func TestJoinWrongNumbers(t *testing.T) {
	for _, size := range []struct{ wide, high int }{{1, 1}, {8, 8}, {9, 7}, {3, 10}, {17, 9}} {
		l := make([]api.Block, count(size.wide, size.high))
		for k := range l {
			for i := range 64 {
				for _, x := range wrongNumbers {
					l[k][i] = x
					expectJoinError(t, l, size.wide, size.high, api.ErrArg)
				}
				l[k][i] = 0
			}
		}
		expectJoin(t, l, size.wide, size.high, all(size.wide*size.high, 128))
	}
	eachSize(func(wide, high int) {
		many := count(wide, high)
		for _, k := range []int{0, many / 2, many - 1} {
			for _, i := range []int{0, 7, 30, 56, 63} {
				for _, x := range []int{-40001, 40001} {
					l := make([]api.Block, many)
					l[k][i] = x
					expectJoinError(t, l, wide, high, api.ErrArg)
				}
			}
		}
	})
}

// P2: the blocks, with the unused capacity of their slice, remain as they are.
func TestJoinKeepsBlocks(t *testing.T) {
	r := samples.Sequence(26)
	eachSize(func(wide, high int) {
		l := samples.Roomy(blocks(&r, count(wide, high), -200, 200), api.Block{50000})
		whole := slices.Clone(l[:len(l)+3])
		first, _ := Join(l, wide, high)
		want := slices.Clone(first)
		second, _ := Join(l, wide, high)
		Join(l, wide, 0)
		Join(l[:len(l)+1], wide, high)
		if !slices.Equal(l[:len(l)+3], whole) {
			t.Fatalf("Join of %d by %d has changed its argument", wide, high)
		}
		samples.Overwrite(second, 5000)
		if !slices.Equal(first, want) {
			t.Fatalf("%d by %d: two results share memory", wide, high)
		}
		if samples.Overwrite(first, 6000); !slices.Equal(l[:len(l)+3], whole) {
			t.Fatalf("%d by %d: the samples share memory with the blocks", wide, high)
		}
		expectJoin(t, l, wide, high, want)
		third, _ := Join(l, wide, high)
		if samples.Overwrite(l, api.Block{9}); !slices.Equal(third, want) {
			t.Fatalf("%d by %d: the samples change with the blocks", wide, high)
		}
	})
}
