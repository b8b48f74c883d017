package plane

import (
	"slices"
	"testing"

	"mezzotint/api"
	"mezzotint/samples"
)

// P21: blocks written out. A row of the picture is a row of the block.
func TestCutOneBlock(t *testing.T) {
	expectCut(t, []int{
		0, 1, 2, 3, 4, 5, 6, 7,
		10, 11, 12, 13, 14, 15, 16, 17,
		20, 21, 22, 23, 24, 25, 26, 27,
		130, 131, 132, 133, 134, 135, 136, 137,
		140, 141, 142, 143, 144, 145, 146, 147,
		150, 151, 152, 153, 154, 155, 156, 157,
		228, 229, 230, 231, 232, 233, 234, 235,
		248, 249, 250, 251, 252, 253, 254, 255,
	}, 8, 8, []api.Block{{
		-128, -127, -126, -125, -124, -123, -122, -121,
		-118, -117, -116, -115, -114, -113, -112, -111,
		-108, -107, -106, -105, -104, -103, -102, -101,
		2, 3, 4, 5, 6, 7, 8, 9,
		12, 13, 14, 15, 16, 17, 18, 19,
		22, 23, 24, 25, 26, 27, 28, 29,
		100, 101, 102, 103, 104, 105, 106, 107,
		120, 121, 122, 123, 124, 125, 126, 127,
	}})
	expectCut(t, []int{
		10, 20, 30,
		40, 50, 60,
	}, 3, 2, []api.Block{{
		-118, -108, -98, -98, -98, -98, -98, -98,
		-88, -78, -68, -68, -68, -68, -68, -68,
		-88, -78, -68, -68, -68, -68, -68, -68,
		-88, -78, -68, -68, -68, -68, -68, -68,
		-88, -78, -68, -68, -68, -68, -68, -68,
		-88, -78, -68, -68, -68, -68, -68, -68,
		-88, -78, -68, -68, -68, -68, -68, -68,
		-88, -78, -68, -68, -68, -68, -68, -68,
	}})
}

func TestCutTwoInARow(t *testing.T) {
	row := api.Block{
		-127, -126, -125, -124, -123, -122, -121, -120,
		-107, -106, -105, -104, -103, -102, -101, -100,
		-107, -106, -105, -104, -103, -102, -101, -100,
		-107, -106, -105, -104, -103, -102, -101, -100,
		-107, -106, -105, -104, -103, -102, -101, -100,
		-107, -106, -105, -104, -103, -102, -101, -100,
		-107, -106, -105, -104, -103, -102, -101, -100,
		-107, -106, -105, -104, -103, -102, -101, -100,
	}
	expectCut(t, []int{
		1, 2, 3, 4, 5, 6, 7, 8, 9, 10,
		21, 22, 23, 24, 25, 26, 27, 28, 29, 30,
	}, 10, 2, []api.Block{row, {
		-119, -118, -118, -118, -118, -118, -118, -118,
		-99, -98, -98, -98, -98, -98, -98, -98,
		-99, -98, -98, -98, -98, -98, -98, -98,
		-99, -98, -98, -98, -98, -98, -98, -98,
		-99, -98, -98, -98, -98, -98, -98, -98,
		-99, -98, -98, -98, -98, -98, -98, -98,
		-99, -98, -98, -98, -98, -98, -98, -98,
		-99, -98, -98, -98, -98, -98, -98, -98,
	}})
}

func TestCutTwoInAColumn(t *testing.T) {
	expectCut(t, []int{
		1, 101,
		2, 102,
		3, 103,
		4, 104,
		5, 105,
		6, 106,
		7, 107,
		8, 108,
		9, 109,
		10, 110,
	}, 2, 10, []api.Block{{
		-127, -27, -27, -27, -27, -27, -27, -27,
		-126, -26, -26, -26, -26, -26, -26, -26,
		-125, -25, -25, -25, -25, -25, -25, -25,
		-124, -24, -24, -24, -24, -24, -24, -24,
		-123, -23, -23, -23, -23, -23, -23, -23,
		-122, -22, -22, -22, -22, -22, -22, -22,
		-121, -21, -21, -21, -21, -21, -21, -21,
		-120, -20, -20, -20, -20, -20, -20, -20,
	}, {
		-119, -19, -19, -19, -19, -19, -19, -19,
		-118, -18, -18, -18, -18, -18, -18, -18,
		-118, -18, -18, -18, -18, -18, -18, -18,
		-118, -18, -18, -18, -18, -18, -18, -18,
		-118, -18, -18, -18, -18, -18, -18, -18,
		-118, -18, -18, -18, -18, -18, -18, -18,
		-118, -18, -18, -18, -18, -18, -18, -18,
		-118, -18, -18, -18, -18, -18, -18, -18,
	}})
}

// Six blocks of one sample each: the blocks of a row come before those of the next one.
func TestCutOrderOfBlocks(t *testing.T) {
	l := make([]int, 24*16)
	for i := range l {
		l[i] = 10*(i/24/8) + i%24/8 + 128
	}
	var want []api.Block
	for _, n := range []int{0, 1, 2, 10, 11, 12} {
		want = append(want, api.Block(all(64, n)))
	}
	expectCut(t, l, 24, 16, want)
}

func TestCutOneSample(t *testing.T) {
	for n := range 256 {
		expectCut(t, []int{n}, 1, 1, []api.Block{api.Block(all(64, n-128))})
	}
}

func TestCutEqualSamples(t *testing.T) {
	eachSize(func(wide, high int) {
		for _, n := range []int{0, 128, 255} {
			expectCut(t, all(wide*high, n), wide, high, all(count(wide, high), api.Block(all(64, n-128))))
		}
	})
}

// Planes of all these sizes, with samples that differ and with those at the bounds.
func TestCutModel(t *testing.T) {
	r := samples.Sequence(21)
	eachSize(func(wide, high int) {
		l := mixed(&r, wide*high, 0, 255)
		expectCut(t, l, wide, high, modelCut(l, wide, high))
		if wide > 17 && high > 17 {
			return
		}
		for i := range l {
			l[i] = []int{0, 128, 255}[r.Below(3)]
		}
		expectCut(t, l, wide, high, modelCut(l, wide, high))
	})
}

// The wrong size comes before a wrong number of samples and a wrong sample.
func TestCutWrongSizes(t *testing.T) {
	lists := [][]int{nil, {}, {7}, {-1}, all(64, 7), all(65, 7), all(65, 256), all(4096, 7), all(65*64, 7), all(65*65, -1)}
	eachWrongSize(func(wide, high int) {
		for _, l := range lists {
			expectCutError(t, l, wide, high, api.ErrArg)
		}
	})
	for _, l := range lists {
		expectCutError(t, l, 65, 1, api.ErrArg)
		expectCutError(t, l, 1, 65, api.ErrArg)
	}
	expectCutError(t, nil, 0, 0, api.ErrArg)
	expectCutError(t, all(64, 7), -8, -8, api.ErrArg)
}

// A wrong number of samples comes before a wrong sample.
func TestCutWrongCount(t *testing.T) {
	eachSize(func(wide, high int) {
		right := wide * high
		for _, n := range []int{0, 1, right - 1, right + 1, right - wide, right + wide, 2 * right, 64 * count(wide, high)} {
			if n == right {
				continue
			}
			for _, x := range []int{100, -1, 256} {
				expectCutError(t, all(n, x), wide, high, api.ErrForm)
			}
			if n > 0 {
				expectCutError(t, append(all(n-1, 100), -1), wide, high, api.ErrForm)
				expectCutError(t, append([]int{256}, all(n-1, 100)...), wide, high, api.ErrForm)
			}
		}
	})
	expectCutError(t, nil, 1, 1, api.ErrForm)
	expectCutError(t, []int{}, 1, 1, api.ErrForm)
	expectCutError(t, nil, 64, 64, api.ErrForm)
	// The sides are not confused.
	expectCut(t, all(6, 128), 2, 3, []api.Block{{}})
	expectCutError(t, all(6, 128), 2, 2, api.ErrForm)
}

func TestCutWrongSamples(t *testing.T) {
	eachSize(func(wide, high int) {
		for _, at := range []int{0, wide * high / 2, wide*high - 1} {
			for _, x := range wrongSamples {
				l := all(wide*high, 100)
				l[at] = x
				expectCutError(t, l, wide, high, api.ErrArg)
			}
		}
	})
	for at := range 9 * 10 {
		for _, x := range []int{-1, 256} {
			l := all(9*10, 0)
			l[at] = x
			expectCutError(t, l, 9, 10, api.ErrArg)
		}
	}
}

// P2: the samples, with the unused capacity of their slice, remain as they are.
func TestCutKeepsSamples(t *testing.T) {
	r := samples.Sequence(22)
	eachSize(func(wide, high int) {
		l := samples.Roomy(mixed(&r, wide*high, 0, 255), -7)
		whole := slices.Clone(l[:len(l)+3])
		first, _ := Cut(l, wide, high)
		want := slices.Clone(first)
		second, _ := Cut(l, wide, high)
		Cut(l, wide, high-1)
		Cut(l[:len(l)+1], wide, high)
		if !slices.Equal(l[:len(l)+3], whole) {
			t.Fatalf("Cut of %d by %d has changed its argument", wide, high)
		}
		samples.Overwrite(second, api.Block{5000})
		if !slices.Equal(first, want) {
			t.Fatalf("%d by %d: two results share memory", wide, high)
		}
		if samples.Overwrite(first, api.Block{6000}); !slices.Equal(l[:len(l)+3], whole) {
			t.Fatalf("%d by %d: the blocks share memory with the samples", wide, high)
		}
		expectCut(t, l, wide, high, want)
		third, _ := Cut(l, wide, high)
		if samples.Overwrite(l, 9); !slices.Equal(third, want) {
			t.Fatalf("%d by %d: the blocks change with the samples", wide, high)
		}
	})
}
