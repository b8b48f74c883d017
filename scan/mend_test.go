package scan

import (
	"slices"
	"testing"

	"mezzotint/api"
	"mezzotint/samples"
)

// damage returns the bytes of blocks with pieces in place of which others stand.
func damage(t *testing.T, x api.Tables, l []api.Block, every int, piece []byte, lost ...int) []byte {
	t.Helper()
	pieces := modelPieces(t, x, l, every)
	for _, k := range lost {
		pieces[k] = piece
	}
	return joined(pieces...)
}

func TestMendWrittenOut(t *testing.T) {
	l := []api.Block{{3}, {3}, {2}}
	expectMend(t, words(), unhex("b7 ffd0 b7 ffd1 a7"), 1, l)
	expectMend(t, words(), unhex("b1 ffd0 a7"), 2, l)
	expectMend(t, words(), unhex("b18f"), 0, l)
	expectMend(t, words(), unhex("ffd0 b7 ffd1 a7"), 1, []api.Block{{}, {3}, {2}}, 0)
	expectMend(t, words(), unhex("b7 ffd0 b6 ffd1 a7"), 1, []api.Block{{3}, {}, {2}}, 1)
	expectMend(t, words(), unhex("b7 ffd0 b7 ffd1"), 1, []api.Block{{3}, {3}, {}}, 2)
	expectMend(t, words(), unhex("b6 ffd0 b7 ffd1 a6"), 1, []api.Block{{}, {3}, {}}, 0, 2)
	expectMend(t, words(), unhex("b0 ffd0 a7"), 2, []api.Block{{}, {}, {2}}, 0)
	expectMend(t, words(), unhex("b1 ffd0 a6"), 2, []api.Block{{3}, {3}, {}}, 1)
	expectMend(t, words(), unhex("b18e"), 0, []api.Block{{}, {}, {}}, 0)
}

// Each choice of lost segments, with pieces that are too short, too long or nothing that can be decoded.
func TestMendLostSegments(t *testing.T) {
	r := samples.Sequence(31)
	for _, n := range []int{1, 2, 5, 6} {
		l := r.Full(n)
		for every := range 4 {
			segments := len(groups(l, every))
			for choice := range 1 << segments {
				var lost []int
				for k := range segments {
					if choice>>k&1 == 1 {
						lost = append(lost, k)
					}
				}
				for _, piece := range [][]byte{nil, noSegment, make([]byte, 1000), {1, 2, 3}} {
					b := damage(t, both(flat(9)), l, every, piece, lost...)
					expectMend(t, both(flat(9)), b, every, without(l, every, lost...), lost...)
				}
			}
		}
	}
}

// As many segments as there may be: the first, a middle and the last one, several and all of them are lost.
func TestMendManySegments(t *testing.T) {
	t.Parallel()
	r := samples.Sequence(32)
	l := r.Blocks(400, 20)
	for _, every := range []int{1, 7, 100} {
		last := len(groups(l, every)) - 1
		all := make([]int, last+1)
		for k := range all {
			all[k] = k
		}
		for _, lost := range [][]int{nil, {0}, {last / 2}, {last}, {0, last}, {0, 1, last - 1, last}, all[:last], all[1:], all} {
			b := damage(t, both(flat(9)), l, every, noSegment, lost...)
			expectMend(t, both(flat(9)), b, every, without(l, every, lost...), lost...)
		}
	}
}

// A segment is lost as a whole, even if only its last block or its last bit is damaged.
func TestMendWholeSegments(t *testing.T) {
	l := []api.Block{{3}, {3}, {3}, {3}, {3}, {3}, {3}, {3}}
	x := words()
	pieces := modelPieces(t, x, l, 3) // b07f, b07f, b1
	for _, wrong := range []string{"b07e", "b0ff00", "b0", "b07fff00", "b1", "b01f"} {
		expectMend(t, x, joined(unhex(wrong), pieces[1], pieces[2]), 3, without(l, 3, 0), 0)
		expectMend(t, x, joined(pieces[0], unhex(wrong), pieces[2]), 3, without(l, 3, 1), 1)
	}
	// The last segment has two blocks, and neither one nor three.
	for _, wrong := range []string{"b7", "b07f", "b0", "", "b1ff00"} {
		expectMend(t, x, joined(pieces[0], pieces[1], unhex(wrong)), 3, without(l, 3, 2), 2)
	}
	// Two blocks are too few for the first segment.
	expectMend(t, x, joined(pieces[2], pieces[1], pieces[2]), 3, without(l, 3, 0), 0)
}

// Segments without a piece are lost; the last piece may be a part of itself.
func TestMendMissingPieces(t *testing.T) {
	r := samples.Sequence(33)
	for _, n := range []int{1, 2, 9, 20} {
		l := r.Full(n)
		for _, every := range []int{0, 1, 2, 3} {
			pieces := modelPieces(t, both(flat(9)), l, every)
			var lost []int
			for have := len(pieces); have > 0; have-- {
				expectMend(t, both(flat(9)), joined(pieces[:have]...), every, without(l, every, lost...), lost...)
				// A marker more is an empty piece more, which is no segment.
				if have < len(pieces) {
					expectMend(t, both(flat(9)), append(joined(pieces[:have]...), 255, 208), every, without(l, every, lost...), lost...)
				}
				lost = slices.Insert(lost, 0, have-1)
			}
			expectMend(t, both(flat(9)), nil, every, make([]api.Block, n), lost...)
		}
	}
	// Without bytes there are n blocks, whatever n is.
	for n := 1; n <= 400; n += 57 {
		expectMend(t, words(), nil, 0, make([]api.Block, n), 0)
	}
}

// Surplus pieces are not looked at, whatever they are.
func TestMendSurplusPieces(t *testing.T) {
	l := []api.Block{{3}, {3}, {2}}
	for _, surplus := range [][]byte{{255, 208}, {255, 210}, {255, 1, 0, 255, 0}, {255, 210, 0xb7}, {255, 209, 0xa7, 255, 210, 0xb7}, {255, 7, 255, 7, 255, 7, 255, 7}} {
		expectMend(t, words(), append(unhex("b7 ffd0 b7 ffd1 a7"), surplus...), 1, l)
		expectMend(t, words(), append(unhex("b1 ffd0 a7"), surplus...), 2, l)
		expectMend(t, words(), append(unhex("b18f"), surplus...), 0, l)
		expectMend(t, words(), append(unhex("b18f"), surplus...), 3, l)
		expectMend(t, words(), append(unhex("b7 ffd0 b6 ffd1 a7"), surplus...), 1, without(l, 1, 1), 1)
		expectMend(t, words(), surplus, 0, make([]api.Block, 3), 0)
		expectMend(t, words(), surplus, 1, nil)
	}
	// But a wrong byte 255 in them is an error of stuff.Split.
	expectMendError(t, words(), unhex("b7 ffd0 b7 ffd1 a7 ffd2 ff"), 3, 1, api.ErrForm)
	expectMendError(t, words(), unhex("b7 ffd0 b7 ffd1 a7 ffd2 ffff00"), 3, 1, api.ErrForm)
}

func TestMendWrongMarkers(t *testing.T) {
	l := []api.Block{{3}, {3}, {2}}
	for m := 1; m <= 254; m++ {
		for other := 1; other <= 254; other += 11 {
			expectMend(t, words(), []byte{0xb7, 255, byte(m), 0xb7, 255, byte(other), 0xa7}, 1, l)
			expectMend(t, words(), []byte{0xb7, 255, byte(other), 0xb6, 255, byte(m), 0xa7}, 1, without(l, 1, 1), 1)
			expectMend(t, words(), []byte{0xb7, 255, byte(other), 0xb7, 255, byte(m)}, 1, without(l, 1, 2), 2)
		}
	}
}

// Without its marker a piece is a part of the one ahead of it, and those behind it move up. The markers do not show this.
func TestMendShiftedPieces(t *testing.T) {
	l := []api.Block{{1}, {3}, {2}, {0}}
	x := api.Tables{First: chain(0, 2, 1), Rest: chain(0)}
	pieces := modelPieces(t, x, l, 1)
	expectMend(t, x, joined(pieces...), 1, l)
	expectMend(t, x, joined(slices.Concat(pieces[0], pieces[1]), pieces[2], pieces[3]), 1, []api.Block{{}, {2}, {0}, {}}, 0, 3)
	expectMend(t, x, joined(pieces[1], pieces[2], pieces[3]), 1, []api.Block{{3}, {2}, {0}, {}}, 3)
	// A marker more divides a piece.
	expectMend(t, x, joined(nil, pieces[0], pieces[1], pieces[2], pieces[3]), 1, []api.Block{{}, {1}, {3}, {2}}, 0)
}

// There is one segment, which has no blocks: it is lost if the first piece has bytes.
func TestMendNoBlocks(t *testing.T) {
	for every := range 101 {
		for _, x := range []api.Tables{{}, words(), both(flat(9))} {
			expectMend(t, x, nil, every, nil)
			expectMend(t, x, []byte{255, 208}, every, nil)
			expectMend(t, x, []byte{255, 208, 0, 255, 1}, every, nil)
			for _, b := range [][]byte{{0}, {127}, {0xb7}, {255, 0}, noSegment, {0, 255, 208}, {0, 255, 208, 255, 209}} {
				expectMend(t, x, b, every, nil, 0)
			}
		}
	}
}

// P2: the lists belong to the caller, with their capacity.
func TestMendResultsAreNew(t *testing.T) {
	l := slices.Repeat([]api.Block{{3}}, 12)
	b := damage(t, words(), l, 2, noSegment, 0, 2, 5)
	blocks, lost, _ := Mend(words(), b, 12, 2)
	otherBlocks, otherLost, _ := Mend(words(), b, 12, 2)
	samples.Overwrite(otherBlocks, api.Block{77})
	samples.Overwrite(otherLost, 78)
	want := without(l, 2, 0, 2, 5)
	if !slices.Equal(blocks, want) || !slices.Equal(lost, []int{0, 2, 5}) {
		t.Errorf("two results share memory: got %v, %v", blocks, lost)
	}
	expectMend(t, words(), b, 2, want, 0, 2, 5)
}
