package seg

import (
	"math"
	"slices"
	"testing"

	"mezzotint/api"
	"mezzotint/run"
	"mezzotint/samples"
)

var wrongNumbers = []int{-2048, 2048, -2049, 4096, -1 << 32, 1 << 32, math.MinInt, math.MaxInt}

// spread returns 256 zeros except for these counts.
func spread(counts map[int]int) []int {
	out := make([]int, 256)
	for s, n := range counts {
		out[s] = n
	}
	return out
}

func expectCounts(t *testing.T, l []api.Block, first, rest map[int]int) {
	t.Helper()
	a, b, e := Counts(l)
	if !slices.Equal(a, spread(first)) || !slices.Equal(b, spread(rest)) || e != api.OK {
		t.Errorf("Counts of %d blocks: got %v, %v and the error %d, want %v, %v", len(l), a, b, e, first, rest)
	}
}

func expectCountsError(t *testing.T, l []api.Block, want api.Errno) {
	t.Helper()
	if a, b, e := Counts(l); len(a) != 0 || len(b) != 0 || e != want {
		t.Errorf("Counts of %d blocks: got %v, %v and the error %d, want the error %d", len(l), a, b, e, want)
	}
}

func TestCountsNoBlocks(t *testing.T) {
	expectCounts(t, nil, nil, nil)
	expectCounts(t, []api.Block{}, nil, nil)
}

func TestCountsOneBlock(t *testing.T) {
	expectCounts(t, []api.Block{{}}, map[int]int{0: 1}, map[int]int{0: 1})
	expectCounts(t, []api.Block{{5}}, map[int]int{3: 1}, map[int]int{0: 1})
	expectCounts(t, []api.Block{{-2047, 1, 2}}, map[int]int{11: 1}, map[int]int{0: 1, 1: 1, 50: 1})
	expectCounts(t, []api.Block{{63: 2047}}, map[int]int{0: 1}, map[int]int{240: 3, 235: 1})
	expectCounts(t, []api.Block{{0: 1, 19: 9}}, map[int]int{1: 1}, map[int]int{240: 1, 4: 1, 0: 1})
}

// Symbols of first tokens and of other ones are the same numbers here, and are counted apart.
func TestCountsApart(t *testing.T) {
	expectCounts(t, []api.Block{{1, 1, 2}, {1, 1}, {3, 2}}, map[int]int{0: 1, 1: 1, 2: 1}, map[int]int{0: 3, 1: 2, 2: 1, 50: 1})
	var b api.Block
	for i := range b {
		b[i] = 7
	}
	expectCounts(t, []api.Block{b}, map[int]int{3: 1}, map[int]int{3: 63})
	expectCounts(t, []api.Block{b, b}, map[int]int{0: 1, 3: 1}, map[int]int{3: 126})
}

// The first token represents a difference to the block ahead, for the first block to 0.
func TestCountsDifferences(t *testing.T) {
	expectCounts(t, []api.Block{{100}, {100}, {101}, {99}, {-2}, {-2047}, {2047}},
		map[int]int{7: 2, 0: 1, 1: 1, 2: 1, 11: 1, 12: 1}, map[int]int{0: 7})
	expectCounts(t, []api.Block{{2047}, {-2047}, {2047}}, map[int]int{11: 1, 12: 2}, map[int]int{0: 3})
	// A call begins with 0 again.
	expectCounts(t, []api.Block{{2047}}, map[int]int{11: 1}, map[int]int{0: 1})
}

func TestCountsAgainstTokens(t *testing.T) {
	for _, l := range lists() {
		first, rest := map[int]int{}, map[int]int{}
		for i, b := range l {
			before := 0
			if i > 0 {
				before = l[i-1][0]
			}
			tokens, _ := run.Tokens(before, b)
			first[tokens[0].Sym]++
			for _, k := range tokens[1:] {
				rest[k.Sym]++
			}
		}
		expectCounts(t, l, first, rest)
	}
}

func TestCountsLarge(t *testing.T) {
	l := make([]api.Block, 402)
	expectCounts(t, l[:399], map[int]int{0: 399}, map[int]int{0: 399})
	expectCounts(t, l[:400], map[int]int{0: 400}, map[int]int{0: 400})
	expectCountsError(t, l[:401], api.ErrLarge)
	expectCountsError(t, l[:402], api.ErrLarge)
	for _, at := range []int{0, 200, 399, 400} {
		wrong := slices.Clone(l[:401])
		wrong[at][5] = 2048
		expectCountsError(t, wrong, api.ErrLarge)
	}
	r := samples.Sequence(5)
	full := r.Full(400)
	first, rest, e := Counts(full)
	sum := func(l []int) (n int) {
		for _, x := range l {
			n += x
		}
		return n
	}
	if sum(first) != 400 || sum(rest) != 63*400 || e != api.OK {
		t.Errorf("Counts of full blocks: got %d, %d and the error %d", sum(first), sum(rest), e)
	}
}

// Each number is checked, at each place of the first, of a middle and of the last block.
func TestCountsBounds(t *testing.T) {
	for _, k := range []int{0, 2, 4} {
		for i := range 64 {
			l := make([]api.Block, 5)
			for _, n := range []int{-2047, 2047} {
				l[k][i] = n
				if a, b, e := Counts(l); len(a) != 256 || len(b) != 256 || e != api.OK {
					t.Errorf("%d at %d of the block %d: got the error %d", n, i, k, e)
				}
			}
			for _, n := range wrongNumbers {
				l[k][i] = n
				expectCountsError(t, l, api.ErrArg)
			}
		}
	}
	expectCountsError(t, []api.Block{{2048}, {-2048}}, api.ErrArg)
	expectCountsError(t, []api.Block{{2048}, {2048}}, api.ErrArg)
}

// P2: the lists belong to the caller, with their capacity, and the blocks remain as they are.
func TestCountsAreNew(t *testing.T) {
	for _, l := range lists() {
		l = samples.Roomy(l, api.Block{9: 2048})
		same := slices.Clone(l[:cap(l)])
		first, rest, _ := Counts(l)
		otherFirst, otherRest, _ := Counts(l)
		samples.Overwrite(otherFirst, -7)
		samples.Overwrite(first, -8)
		if !slices.Equal(otherRest, rest) || slices.Contains(rest, -7) || slices.Contains(rest, -8) {
			t.Error("the two lists share memory")
		}
		samples.Overwrite(rest, -9)
		if slices.ContainsFunc(first, func(n int) bool { return n != -8 }) || slices.Contains(otherRest, -9) {
			t.Error("the lists share memory")
		}
		Counts(append(slices.Clone(l), api.Block{2048}))
		if !slices.Equal(l[:cap(l)], same) {
			t.Error("the blocks have changed")
		}
	}
}

// P2: a call leaves nothing behind that a later call could see.
func TestCountsNoState(t *testing.T) {
	for _, wrong := range wrongNumbers {
		Counts([]api.Block{{7}, {wrong}})
		Counts(make([]api.Block, 401))
		Counts([]api.Block{{1000, 5}})
		expectCounts(t, []api.Block{{5}}, map[int]int{3: 1}, map[int]int{0: 1})
	}
}
