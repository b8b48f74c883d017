// Package samples has tables, blocks and other arguments for the tests of several packages. The program does not use it.
package samples

import (
	"slices"

	"mezzotint/api"
)

// Table returns a table with these symbols, whatever the counts are.
func Table(syms []int, counts ...int) api.Table {
	t := api.Table{Syms: syms}
	copy(t.Counts[:], counts)
	return t
}

// Chain returns a table with the codewords 0, 10, 110 and so on for up to 16 symbols.
func Chain(syms ...int) api.Table {
	t := api.Table{Syms: syms}
	for k := range syms {
		t.Counts[k] = 1
	}
	return t
}

// Flat returns a table in which all symbols have codewords of long bits: zeros and, in the last eight bits, the symbol.
func Flat(long int) api.Table {
	var t api.Table
	t.Counts[long-1] = api.MaxSyms
	for s := range api.MaxSyms {
		t.Syms = append(t.Syms, s)
	}
	return t
}

// Short returns a table in which the symbol 0 has the codeword 0, and the others have codewords of nine bits.
func Short() api.Table {
	t := Flat(9)
	t.Counts[0], t.Counts[8] = 1, api.MaxSyms-1
	return t
}

// Both returns tables that are the same one.
func Both(t api.Table) api.Tables {
	return api.Tables{First: t, Rest: t}
}

// WrongTable is a table with an error of table.Check.
type WrongTable struct {
	Table api.Table
	Error api.Errno
}

// WrongTables returns a table for each error, and for most of the reasons for it.
func WrongTables() []WrongTable {
	return []WrongTable{
		{Table([]int{0, 1}, 1), api.ErrForm},
		{Table([]int{0}, -1, 2), api.ErrForm},
		{Table([]int{0, 1}, 2), api.ErrForm},
		{Table([]int{0, 0}, 1, 1), api.ErrForm},
		{Table([]int{0, 256}, 1, 1), api.ErrArg},
		{Table([]int{0, -1}, 1, 1), api.ErrArg},
	}
}

// Sequence yields numbers that look mixed, the same ones in each run of the tests.
type Sequence uint64

// Below returns a number from 0 to n-1.
func (s *Sequence) Below(n int) int {
	*s = *s*6364136223846793005 + 1442695040888963407
	return int(uint64(*s)>>33) % n
}

// Coef returns a number in [-2047, 2047]; all sizes are about as frequent.
func (s *Sequence) Coef() int {
	n := s.Below(1 << s.Below(12))
	if s.Below(2) == 0 {
		return -n
	}
	return n
}

// Blocks returns n blocks in which about one of share numbers is not 0.
func (s *Sequence) Blocks(n, share int) []api.Block {
	out := make([]api.Block, n)
	for k := range out {
		for i := range out[k] {
			if s.Below(share) == 0 {
				out[k][i] = s.Coef()
			}
		}
	}
	return out
}

// Full returns n blocks of 64 numbers that are not 0, so that each of them has 64 tokens.
func (s *Sequence) Full(n int) []api.Block {
	out := make([]api.Block, n)
	for k := range out {
		for i := range out[k] {
			for out[k][i] == 0 {
				out[k][i] = s.Coef()
			}
		}
	}
	return out
}

// Overwrite sets all elements of l, including those of its unused capacity.
func Overwrite[T any](l []T, x T) {
	l = l[:cap(l)]
	for i := range l {
		l[i] = x
	}
}

// Roomy returns the elements of l in a slice with unused capacity, in which spare stands.
func Roomy[T any](l []T, spare T) []T {
	out := append(slices.Clone(l), spare, spare, spare)
	return out[:len(l)]
}
