package best

import (
	"math"
	"slices"
	"testing"

	"mezzotint/api"
	"mezzotint/table"
)

const never = math.MaxInt / 2

// with returns a table with these symbols, whatever the counts are.
func with(syms []int, counts ...int) api.Table {
	t := api.Table{Syms: syms}
	copy(t.Counts[:], counts)
	return t
}

// chain returns a table with one codeword of each length: of i+1 bits for the symbol i.
func chain() api.Table {
	var t api.Table
	for k := range t.Counts {
		t.Counts[k] = 1
		t.Syms = append(t.Syms, k)
	}
	return t
}

// fibonacci returns n numbers, from 1 and 1 on, none of them above MaxCount.
func fibonacci(n int) []int {
	var out []int
	a, b := 1, 1
	for range n {
		out = append(out, min(a, api.MaxCount))
		a, b = b, a+b
	}
	return out
}

// mixed returns n numbers below limit, the same ones in each run.
func mixed(n, limit, seed int) []int {
	out := make([]int, n)
	state := uint32(seed)
	for i := range out {
		state = state*1664525 + 1013904223
		out[i] = int(state>>8) % limit
	}
	return out
}

// falling returns the positive counts, the largest one first.
func falling(counts []int) []int {
	var out []int
	for _, n := range counts {
		if n > 0 {
			out = append(out, n)
		}
	}
	slices.Sort(out)
	slices.Reverse(out)
	return out
}

// allows tells whether there are codewords of these lengths of which none consists of ones only: a codeword of 16 bits must be left over.
func allows(lengths []int) bool {
	free := 1 << api.MaxLong
	for _, l := range lengths {
		free -= 1 << (api.MaxLong - l)
	}
	return free > 0
}

// eachLengths calls f with all n lengths from first to 16; if rising, only with those that never decrease.
func eachLengths(n, first int, rising bool, before []int, f func([]int)) {
	if n == 0 {
		f(before)
		return
	}
	for l := first; l <= api.MaxLong; l++ {
		next := first
		if rising {
			next = l
		}
		eachLengths(n-1, next, rising, append(before, l), f)
	}
}

// admissible returns the lengths of all tables of n symbols; if rising, only those that never decrease.
func admissible(n int, rising bool) [][]int {
	var out [][]int
	eachLengths(n, 1, rising, nil, func(l []int) {
		if allows(l) {
			out = append(out, slices.Clone(l))
		}
	})
	return out
}

// leastOf returns the least cost of the positive counts with the given lengths.
func leastOf(lengths [][]int, counts []int) int {
	least := never
	for _, l := range lengths {
		sum := 0
		for i, n := range counts {
			sum += n * l[i]
		}
		least = min(least, sum)
	}
	return least
}

// modelLeast returns the least cost of any table. It looks at trees from their root downwards: at each depth, with some free nodes, either the most frequent symbol that is left takes one of them (one must remain, for the codeword of ones), or the tree becomes deeper, which costs a bit for each occurrence that is left.
func modelLeast(counts []int) int {
	l := falling(counts)
	n := len(l)
	left := make([]int, n+1)
	for i := n - 1; i >= 0; i-- {
		left[i] = left[i+1] + l[i]
	}
	deeper := make([][]int, n+1)
	for depth := api.MaxLong; depth >= 0; depth-- {
		here := make([][]int, n+1)
		for i := n; i >= 0; i-- {
			here[i] = make([]int, n+2)
			for free := 1; free <= n+1; free++ {
				if i == n {
					continue
				}
				here[i][free] = never
				if free > 1 {
					here[i][free] = here[i+1][free-1]
				}
				if depth < api.MaxLong {
					here[i][free] = min(here[i][free], left[i]+deeper[i][min(2*free, n+1)])
				}
			}
		}
		deeper = here
	}
	return deeper[0][1]
}

// unlimited returns the least cost if codewords may have any length: Huffman's algorithm, with a leaf for the codeword of ones.
func unlimited(counts []int) int {
	l := append(falling(counts), 0)
	sum := 0
	for len(l) > 1 {
		slices.Sort(l)
		sum += l[0] + l[1]
		l = append(l[2:], l[0]+l[1])
	}
	return sum
}

// expectMade makes a table for the counts, and tests everything but that its cost is the least one, which is want.
func expectMade(t *testing.T, counts []int, want int) api.Table {
	t.Helper()
	x, e := Make(counts)
	if e != api.OK {
		t.Fatalf("Make of %v: got the error %d", counts, e)
	}
	if e := table.Check(x); e != api.OK {
		t.Fatalf("Make of %v: got %v, for which Check returns %d", counts, x, e)
	}
	var syms []int
	for s, n := range counts {
		if n > 0 {
			syms = append(syms, s)
		}
	}
	if got := slices.Sorted(slices.Values(x.Syms)); !slices.Equal(got, syms) {
		t.Errorf("Make of %v: got the symbols %v", counts, got)
	}
	words, _ := table.Words(x)
	sum := 0
	for _, w := range words {
		sum += w.Long * counts[w.Sym]
	}
	if sum != want {
		t.Errorf("Make of %v: got %v of the cost %d, want the cost %d", counts, x, sum, want)
	}
	expectCost(t, x, counts, sum)
	return x
}

func expectMakeError(t *testing.T, counts []int, want api.Errno) {
	t.Helper()
	x, e := Make(counts)
	if e != want {
		t.Errorf("Make of %v: got the error %d, want %d", counts, e, want)
	}
	if len(x.Syms) != 0 || x.Counts != [api.MaxLong]int{} {
		t.Errorf("Make of %v: got %v beside an error", counts, x)
	}
}

func expectCost(t *testing.T, x api.Table, counts []int, want int) {
	t.Helper()
	if n, e := Cost(x, counts); n != want || e != api.OK {
		t.Errorf("Cost of %v by %v: got %d and the error %d, want %d", counts, x, n, e, want)
	}
}

func expectCostError(t *testing.T, x api.Table, counts []int, want api.Errno) {
	t.Helper()
	if n, e := Cost(x, counts); n != 0 || e != want {
		t.Errorf("Cost of %v by %v: got %d and the error %d, want 0 and the error %d", counts, x, n, e, want)
	}
}

func TestCostOrdinary(t *testing.T) {
	x := with([]int{0, 2, 1}, 1, 1, 1)
	expectCost(t, x, []int{5, 1, 1}, 5+3+2)
	expectCost(t, x, []int{0, 4, 7}, 12+14)
	expectCost(t, x, []int{0, 4}, 12)
	expectCost(t, x, []int{9, 0, 0}, 9)
	expectCost(t, with([]int{3, 1}, 0, 2), []int{0, 5, 0, 6}, 22)
	expectCost(t, with([]int{255}, 0, 0, 1), slices.Concat(make([]int, 255), []int{4}), 12)
	want := 0
	for i := range api.MaxLong {
		want += (i + 1) * (10*i + 3)
	}
	counts := make([]int, api.MaxLong)
	for i := range counts {
		counts[i] = 10*i + 3
	}
	expectCost(t, chain(), counts, want)
}

func TestCostOfNothing(t *testing.T) {
	for _, x := range []api.Table{{}, {Syms: []int{}}, with([]int{0}, 1), chain()} {
		for _, counts := range [][]int{nil, {}, {0}, {0, 0, 0}, make([]int, api.MaxSyms)} {
			expectCost(t, x, counts, 0)
		}
	}
}

// The cost is the number of bits that Encode writes and Decode reads.
func TestCostCountsBits(t *testing.T) {
	tables := []api.Table{chain(), with([]int{4, 0, 3, 2, 1}, 0, 2, 1, 2), with([]int{6, 2, 1, 0, 3}, 0, 0, 0, 1, 0, 3, 1)}
	for i, x := range tables {
		counts := make([]int, slices.Max(x.Syms)+1)
		var syms []int
		for j, s := range x.Syms {
			counts[s] = mixed(len(x.Syms), 100, i+1)[j]
			syms = append(syms, slices.Repeat([]int{s}, counts[s])...)
		}
		b, e := table.Encode(x, syms)
		_, bits, f := table.Decode(x, b, len(syms))
		if e != api.OK || f != api.OK || bits == 0 {
			t.Fatal(i, bits, e, f)
		}
		expectCost(t, x, counts, bits)
	}
}

func TestCostOfBadTables(t *testing.T) {
	for _, c := range []struct {
		x    api.Table
		want api.Errno
	}{
		{with([]int{0, 1}, 2), api.ErrForm},        // a codeword of ones only
		{with([]int{0, 1, 2}, 3), api.ErrForm},     // a codeword that does not fit
		{with([]int{0, 0}, 1, 1), api.ErrForm},     // a symbol twice
		{with([]int{0, 1}, 1), api.ErrForm},        // counts that differ from the symbols
		{with([]int{0}, 2, -1), api.ErrForm},       // a negative count
		{with([]int{0, 256}, 1, 1), api.ErrArg},    // symbols out of their bounds
		{with([]int{0, -1}, 1, 1), api.ErrArg},     //
		{with([]int{0, 0, 256}, 3), api.ErrArg},    // Check's own order
		{with([]int{0}, math.MaxInt), api.ErrForm}, //
	} {
		// The error of the table comes before all the others.
		for _, counts := range [][]int{nil, {0}, {1}, {-1}, {10000}, {0, 0, 0, 7}, make([]int, 257), slices.Repeat([]int{-1}, 257)} {
			expectCostError(t, c.x, counts, c.want)
		}
	}
}

func TestCostNumberOfCounts(t *testing.T) {
	x := with([]int{0, 255}, 1, 1)
	counts := make([]int, 257)
	counts[0], counts[255] = 3, 4
	expectCost(t, x, counts[:256], 11)
	expectCost(t, x, counts[:255], 3)
	expectCostError(t, x, counts, api.ErrLarge)
	expectCostError(t, api.Table{}, make([]int, 257), api.ErrLarge)
	expectCostError(t, x, make([]int, 100000), api.ErrLarge)
}

func TestCostBoundsOfCounts(t *testing.T) {
	x := with([]int{0, 1, 2}, 1, 1, 1)
	for i := range 3 {
		for _, n := range []int{0, 1, 9998, 9999} {
			counts := []int{0, 0, 0}
			counts[i] = n
			expectCost(t, x, counts, n*(i+1))
		}
		for _, n := range []int{-1, 10000, math.MinInt, math.MaxInt, 1 << 32, -1 << 32} {
			counts := []int{1, 1, 1}
			counts[i] = n
			expectCostError(t, x, counts, api.ErrArg)
		}
	}
	all := slices.Repeat([]int{9999}, 256)
	wide := api.Table{}
	wide.Counts[15] = 256
	for s := range 256 {
		wide.Syms = append(wide.Syms, s)
	}
	expectCost(t, wide, all, 16*256*9999)
}

func TestCostNoCodeword(t *testing.T) {
	x := with([]int{1, 3}, 1, 1)
	expectCost(t, x, []int{0, 1, 0, 1, 0}, 3)
	for i := range 256 {
		counts := make([]int, 256)
		counts[1], counts[3] = 2, 2
		counts[i]++
		switch i {
		case 1:
			expectCost(t, x, counts, 7)
		case 3:
			expectCost(t, x, counts, 8)
		default:
			expectCostError(t, x, counts, api.ErrNone)
		}
	}
	expectCostError(t, api.Table{}, []int{1}, api.ErrNone)
	expectCostError(t, api.Table{}, []int{0, 9999}, api.ErrNone)
}

func TestCostSymbolsBeyondCounts(t *testing.T) {
	x := with([]int{200, 0, 1, 255}, 0, 2, 2)
	expectCost(t, x, []int{7}, 14)
	expectCost(t, x, []int{7, 1}, 17)
	expectCost(t, x, nil, 0)
	expectCostError(t, x, []int{7, 1, 1}, api.ErrNone)
	// The unused capacity of the counts is not part of them.
	expectCost(t, x, []int{7, 1, 1}[:2], 17)
	expectCost(t, x, []int{7, 1, -1}[:2], 17)
}

func TestCostErrorOrder(t *testing.T) {
	x := with([]int{1}, 1)
	many := make([]int, 257)
	for _, bad := range []int{-1, 10000} {
		// ErrLarge before ErrArg before ErrNone, wherever they stand.
		for _, i := range []int{0, 1, 256} {
			counts := slices.Clone(many)
			counts[i] = bad
			expectCostError(t, x, counts, api.ErrLarge)
		}
		expectCostError(t, x, []int{bad, 1, 1}, api.ErrArg)
		expectCostError(t, x, []int{1, 1, bad}, api.ErrArg)
		expectCostError(t, x, []int{1, bad}, api.ErrArg)
	}
	many[0] = 1
	expectCostError(t, x, many, api.ErrLarge)
	expectCostError(t, x, many[:256], api.ErrNone)
}

func TestMakeExample(t *testing.T) {
	x := expectMade(t, []int{5, 1, 1}, 10)
	if x.Counts != with(nil, 1, 1, 1).Counts || !slices.Equal(x.Syms, []int{0, 1, 2}) {
		t.Error(x)
	}
}

func TestMakeNothing(t *testing.T) {
	for _, counts := range [][]int{nil, {}, {0}, {0, 0, 0}, make([]int, 256)} {
		x := expectMade(t, counts, 0)
		if x.Counts != [api.MaxLong]int{} {
			t.Error(counts, x)
		}
	}
}

func TestMakeOneSymbol(t *testing.T) {
	for _, s := range []int{0, 1, 100, 255} {
		for _, n := range []int{1, 2, 9999} {
			counts := make([]int, 256)
			counts[s] = n
			expectMade(t, counts, n)
			expectMade(t, counts[:s+1], n)
		}
	}
}

func TestMakeTwoSymbols(t *testing.T) {
	expectMade(t, []int{3, 4}, 10)
	expectMade(t, []int{4, 3}, 10)
	expectMade(t, []int{1, 1}, 3)
	expectMade(t, []int{0, 3, 0, 4}, 10)
	expectMade(t, []int{9999, 0, 1}, 10001)
	expectMade(t, []int{1, 9999}, 10001)
}

func TestMakeManySymbols(t *testing.T) {
	for _, n := range []int{1, 7, 9999} {
		// One of 256 codewords has nine bits, since the last one of eight bits consists of ones only.
		expectMade(t, slices.Repeat([]int{n}, 256), n*(255*8+9))
		expectMade(t, slices.Repeat([]int{n}, 255), n*255*8)
		expectMade(t, slices.Repeat([]int{n}, 254), n*(253*8+7))
	}
}

func TestMakeBoundsOfCounts(t *testing.T) {
	expectMade(t, []int{9999, 9999, 9999}, 9999*6)
	for i := range 3 {
		for _, n := range []int{-1, 10000, math.MinInt, math.MaxInt, 1 << 32, -1 << 32} {
			counts := []int{1, 1, 1}
			counts[i] = n
			expectMakeError(t, counts, api.ErrArg)
		}
	}
	counts := make([]int, 256)
	counts[255] = 10000
	expectMakeError(t, counts, api.ErrArg)
	counts[255] = -1
	expectMakeError(t, counts, api.ErrArg)
}

func TestMakeNumberOfCounts(t *testing.T) {
	expectMakeError(t, make([]int, 257), api.ErrLarge)
	expectMakeError(t, slices.Repeat([]int{1}, 257), api.ErrLarge)
	expectMakeError(t, make([]int, 100000), api.ErrLarge)
	// ErrLarge before ErrArg, wherever it stands.
	expectMakeError(t, slices.Repeat([]int{-1}, 257), api.ErrLarge)
	for _, i := range []int{0, 100, 256} {
		counts := make([]int, 257)
		counts[i] = 10000
		expectMakeError(t, counts, api.ErrLarge)
	}
	// The unused capacity of the counts is not part of them.
	expectMade(t, slices.Repeat([]int{1}, 257)[:3], 6)
	expectMade(t, []int{1, 1, -1}[:2], 3)
}

// Without a limit some codewords would have more than 16 bits.
func TestMakeLimit(t *testing.T) {
	// With fifteen numbers, the sixteen leaves need no more than fifteen bits.
	expectMade(t, fibonacci(15), unlimited(fibonacci(15)))
	for n := 18; n <= 40; n++ {
		counts := fibonacci(n)
		want := modelLeast(counts)
		if want <= unlimited(counts) {
			t.Error("the limit does not matter", n)
		}
		expectMade(t, counts, want)
		slices.Reverse(counts)
		x := expectMade(t, counts, want)
		if x.Counts[15] == 0 {
			t.Error("no codeword of 16 bits", n, x)
		}
	}
	tail := slices.Concat(fibonacci(19), slices.Repeat([]int{9999}, 230), slices.Repeat([]int{1}, 7))
	expectMade(t, tail, modelLeast(tail))
}

// No other lengths cost less: all of up to four symbols are tried.
func TestMakeAgainstAllLengths(t *testing.T) {
	values := []int{1, 2, 3, 5, 8, 9999}
	for n := 1; n <= 4; n++ {
		lengths := admissible(n, false)
		for i := range int(math.Pow(float64(len(values)), float64(n))) {
			var counts []int
			for range n {
				counts = append(counts, values[i%len(values)])
				i /= len(values)
			}
			expectMade(t, counts, leastOf(lengths, counts))
		}
	}
}

// In a table of least cost a more frequent symbol has no longer codeword, so that it suffices to try lengths that never decrease for counts that never increase.
func TestMakeAgainstRisingLengths(t *testing.T) {
	for n := 5; n <= 7; n++ {
		lengths := admissible(n, true)
		for seed := range 40 {
			counts := mixed(n, []int{3, 10, 100, 10000}[seed%4], seed)
			for i := range counts {
				counts[i] = max(1, counts[i])
			}
			expectMade(t, counts, leastOf(lengths, falling(counts)))
		}
		powers := make([]int, n)
		for i := range powers {
			powers[i] = 1 << i
		}
		expectMade(t, powers, leastOf(lengths, falling(powers)))
		expectMade(t, fibonacci(n), leastOf(lengths, falling(fibonacci(n))))
	}
}

func TestMakeAgainstModel(t *testing.T) {
	for n := range 60 {
		for _, limit := range []int{2, 3, 20, 10000} {
			counts := mixed(n, limit, n+limit)
			expectMade(t, counts, modelLeast(counts))
		}
	}
	for seed, limit := range []int{2, 5, 100, 10000} {
		counts := mixed(256, limit, seed+1)
		expectMade(t, counts, modelLeast(counts))
	}
	// Few symbols of very different counts and many rare ones.
	for seed := range 8 {
		counts := mixed(256, 3, seed+1)
		for i, n := range fibonacci(20) {
			counts[(i*37+seed)%256] = n
		}
		expectMade(t, counts, modelLeast(counts))
	}
}

// P2: neither the elements nor the unused capacity of an argument change.
func TestArgumentsUnchanged(t *testing.T) {
	for _, last := range []int{0, 7, -1, 10000} {
		counts := append(fibonacci(15), last, 31, 32, 33)
		x := chain()
		x.Syms = append(x.Syms, 41, 42, 43)
		syms := x.Syms
		x.Syms = syms[:16]
		sameCounts, sameSyms := slices.Clone(counts), slices.Clone(syms)
		Make(counts[:16])
		Cost(x, counts[:16])
		if !slices.Equal(counts, sameCounts) || !slices.Equal(syms, sameSyms) {
			t.Error("an argument has changed", last)
		}
	}
}

// P2: a result, with its capacity, belongs to the caller: neither changing it nor changing an argument shows elsewhere.
func TestResultsAreNew(t *testing.T) {
	counts := fibonacci(20)
	x, _ := Make(counts)
	syms := slices.Clone(x.Syms)
	y, _ := Make(counts)
	overwrite(y.Syms, -7)
	if !slices.Equal(counts, fibonacci(20)) {
		t.Error("a result shares memory with an argument")
	}
	if !slices.Equal(x.Syms, syms) {
		t.Error("results share memory")
	}
	overwrite(counts, 99)
	if !slices.Equal(x.Syms, syms) {
		t.Error("an argument is kept")
	}
	if z, e := Make(fibonacci(20)); e != api.OK || z.Counts != x.Counts || !slices.Equal(z.Syms, syms) {
		t.Error("a changed result shows in a later one", z, e)
	}
}

// overwrite sets all elements of s, including those of its unused capacity.
func overwrite(s []int, x int) {
	s = s[:cap(s)]
	for i := range s {
		s[i] = x
	}
}

// P2: a call leaves nothing behind that a later call could see, and equal calls have equal results.
func TestNoStateBetweenCalls(t *testing.T) {
	equal, few := slices.Repeat([]int{3}, 256), []int{0, 5, 1, 1}
	first, _ := Make(equal)
	firstFew, _ := Make(few)
	for range 3 {
		x, _ := Make(equal)
		expectMakeError(t, []int{-1}, api.ErrArg)
		y, _ := Make(few)
		if x.Counts != first.Counts || !slices.Equal(x.Syms, first.Syms) || y.Counts != firstFew.Counts || !slices.Equal(y.Syms, firstFew.Syms) {
			t.Error("results differ", x, y)
		}
		expectCost(t, x, equal, 3*2049)
		expectCost(t, y, few, 10)
		expectCostError(t, y, []int{1}, api.ErrNone)
	}
}

// P1: no combination of extreme numbers makes a function panic.
func TestNoPanic(t *testing.T) {
	extremes := []int{math.MinInt, math.MinInt + 1, -257, -1, 0, 1, 2, 255, 256, 9999, 10000, math.MaxInt - 1, math.MaxInt}
	for _, p := range extremes {
		for _, q := range extremes {
			for _, r := range extremes {
				Make([]int{p, q, r})
				x := with([]int{r, 0}, p, q)
				x.Counts[15] = r
				Cost(x, []int{p, q, r})
				Cost(with([]int{0, 1, 2}, 0, 3), []int{p, q, r})
			}
		}
	}
	for n := range 300 {
		Make(make([]int, n))
		Make(slices.Repeat([]int{9999}, n))
		Cost(chain(), make([]int, n))
	}
}
