package plane

import (
	"testing"

	"mezzotint/api"
)

// P21, by the document's example, and more counts written out.
func TestManyWrittenOut(t *testing.T) {
	expectMany(t, 9, 8, 2)
	for _, c := range []struct{ wide, high, want int }{
		{1, 1, 1}, {8, 8, 1}, {8, 1, 1}, {1, 8, 1}, {8, 9, 2}, {9, 9, 4}, {16, 8, 2}, {17, 8, 3}, {8, 17, 3}, {16, 16, 4}, {17, 16, 6},
		{16, 17, 6}, {17, 17, 9}, {24, 5, 3}, {1, 64, 8}, {64, 1, 8}, {56, 57, 56}, {57, 56, 56}, {56, 56, 49}, {63, 63, 64}, {64, 64, 64},
	} {
		expectMany(t, c.wide, c.high, c.want)
	}
}

// All sizes: as many blocks as there are samples at the top left corner of one.
func TestManyAllSizes(t *testing.T) {
	for wide := 1; wide <= 64; wide++ {
		for high := 1; high <= 64; high++ {
			corners := 0
			for row := range high {
				for column := range wide {
					if row%8 == 0 && column%8 == 0 {
						corners++
					}
				}
			}
			expectMany(t, wide, high, corners)
		}
	}
}

func TestManyWrongSizes(t *testing.T) {
	eachWrongSize(func(wide, high int) {
		expectManyError(t, wide, high, api.ErrArg)
	})
}

// P2: a result depends on nothing but the arguments of its call.
func TestManyAgain(t *testing.T) {
	for range 3 {
		expectMany(t, 17, 9, 6)
		expectManyError(t, 65, 9, api.ErrArg)
		expectMany(t, 9, 17, 6)
		expectMany(t, 64, 64, 64)
	}
}
