package scan

import (
	"bytes"
	"slices"
	"testing"

	"mezzotint/api"
	"mezzotint/samples"
)

func TestDecodeWrittenOut(t *testing.T) {
	l := []api.Block{{3}, {3}, {2}}
	expectDecode(t, words(), unhex("b7 ffd0 b7 ffd1 a7"), 1, l)
	expectDecode(t, words(), unhex("b1 ffd0 a7"), 2, l)
	for _, every := range []int{0, 3, 4, 99, 100} {
		expectDecode(t, words(), unhex("b18f"), every, l)
	}
	x, b, piece := ones()
	expectDecode(t, x, joined(piece, piece, piece), 1, []api.Block{b, b, b})
}

func TestDecodeThereAndBack(t *testing.T) {
	t.Parallel()
	for _, l := range lists() {
		for _, every := range someEvery {
			for _, x := range severalTables(t, l, every) {
				b, e := Encode(x, l, every)
				if e != api.OK {
					t.Fatalf("Encode of %d blocks by %d: got the error %d", len(l), every, e)
				}
				expectDecode(t, x, b, every, l)
				expectMend(t, x, b, every, l)
			}
		}
	}
	r := samples.Sequence(21)
	l := r.Blocks(101, 20)
	for every := range 101 {
		expectDecode(t, both(flat(9)), joined(modelPieces(t, both(flat(9)), l, every)...), every, l)
	}
}

// No blocks are one segment of no bytes.
func TestDecodeNoBlocks(t *testing.T) {
	for every := range 101 {
		for _, x := range []api.Tables{{}, words(), both(flat(9))} {
			expectDecode(t, x, nil, every, nil)
			expectDecode(t, x, []byte{}, every, nil)
			for _, b := range [][]byte{{255, 208}, {255, 209}, {255, 208, 255, 209}, {0}, {127}, noSegment, {255, 208, 0}, {0, 255, 208}} {
				expectDecodeError(t, x, b, 0, every, api.ErrForm)
			}
		}
	}
}

// A wrong every or n comes before all other errors.
func TestWrongEveryAndN(t *testing.T) {
	tables := []api.Tables{{}, words()}
	for _, w := range wrongTables {
		tables = append(tables, api.Tables{First: w.Table}, api.Tables{Rest: w.Table})
	}
	for _, x := range tables {
		for _, b := range [][]byte{nil, {0xb7}, {255}, {255, 255}, {0xb7, 255, 209, 0xb7}, {255, 208}} {
			for _, every := range wrongEvery {
				for _, n := range []int{0, 1, 400, -1, 401} {
					expectBothErrors(t, x, b, n, every, api.ErrArg)
				}
			}
			for _, n := range wrongN {
				for _, every := range []int{0, 1, 100, -1, 101} {
					expectBothErrors(t, x, b, n, every, api.ErrArg)
				}
			}
		}
	}
}

// A wrong First comes before a wrong Rest, and both before errors of the bytes.
func TestWrongTables(t *testing.T) {
	for _, w := range wrongTables {
		for _, b := range [][]byte{nil, {0}, {255}, {255, 255, 0}, {255, 208}, {0xb7, 255, 209, 0xb7}} {
			for _, n := range []int{0, 1, 2, 400} {
				for _, every := range []int{0, 1, 100} {
					expectBothErrors(t, api.Tables{First: w.Table}, b, n, every, w.Error)
					expectBothErrors(t, api.Tables{First: w.Table, Rest: flat(9)}, b, n, every, w.Error)
					expectBothErrors(t, api.Tables{Rest: w.Table}, b, n, every, w.Error)
					expectBothErrors(t, api.Tables{First: flat(9), Rest: w.Table}, b, n, every, w.Error)
					for _, other := range wrongTables {
						expectBothErrors(t, api.Tables{First: w.Table, Rest: other.Table}, b, n, every, w.Error)
					}
				}
			}
		}
	}
}

// The errors of stuff.Split come before a wrong marker and before a segment that is cut off, wherever the wrong byte is.
func TestSplitErrors(t *testing.T) {
	for _, b := range [][]byte{
		{255},
		{255, 255},
		{255, 255, 0},
		{0xb7, 255},
		{255, 208, 255, 255, 208},
		unhex("b7 ffd0 b7 ffd1 a7 ff"),
		unhex("b7 ffd0 b7 ffffd1 a7"),
		unhex("b7 ffff d0 b7 ffd1 a7"),
		unhex("b7 ffd3 b7 ffd1 a7 ff"),
		unhex("b7 ffd0 b7 ffd0 a7 ffff"),
		unhex("ffd0 b7 ffd1 a7 ff"),
		unhex("ff00ff00 ffd0 b7 ffd1 a7 ff"),
	} {
		for _, n := range []int{0, 1, 2, 3, 4, 400} {
			for _, every := range []int{0, 1, 2, 100} {
				expectBothErrors(t, words(), b, n, every, api.ErrForm)
			}
		}
	}
}

// Too few and too many pieces come before a wrong marker and before a segment that cannot be decoded.
func TestDecodeNumberOfPieces(t *testing.T) {
	for n := 1; n <= 12; n++ {
		for count := 1; count <= 14; count++ {
			later := slices.Repeat([][]byte{{0xb7}}, count-1)
			good := joined(append([][]byte{{0xb7}}, later...)...)
			cutOff := joined(append([][]byte{nil}, later...)...)
			tooLong := joined(append([][]byte{{0xb7, 0xff, 0x00}}, later...)...)
			wrongMarker := bytes.ReplaceAll(good, []byte{255, 208}, []byte{255, 215})
			if count == n {
				expectDecode(t, words(), good, 1, slices.Repeat([]api.Block{{3}}, n))
				expectDecodeError(t, words(), cutOff, n, 1, api.ErrShort)
				expectDecodeError(t, words(), tooLong, n, 1, api.ErrForm)
				continue
			}
			for _, b := range [][]byte{good, cutOff, tooLong, wrongMarker} {
				expectDecodeError(t, words(), b, n, 1, api.ErrForm)
			}
		}
	}
	good := unhex("b1 ffd0 b1 ffd1 b7")
	expectDecode(t, words(), good, 2, slices.Repeat([]api.Block{{3}}, 5))
	expectDecodeError(t, words(), good[:4], 5, 2, api.ErrForm)
	expectDecodeError(t, words(), append(good, 255, 210), 5, 2, api.ErrForm)
	// By these, there are two, two, one, one and five segments.
	for _, every := range []int{3, 4, 5, 0, 1} {
		expectDecodeError(t, words(), good, 5, every, api.ErrForm)
	}
}

// As many segments as pieces, but other ones.
func TestDecodeOtherDivision(t *testing.T) {
	l := slices.Repeat([]api.Block{{3}}, 5)
	two := joined(modelPieces(t, words(), l, 3)...) // three blocks and two
	expectDecode(t, words(), two, 3, l)
	expectDecodeError(t, words(), two, 5, 4, api.ErrShort)
	expectDecodeError(t, words(), two, 4, 3, api.ErrForm)
	expectDecodeError(t, words(), two, 6, 3, api.ErrShort)
	expectDecodeError(t, words(), two, 4, 2, api.ErrForm)
	one := joined(modelPieces(t, words(), l, 0)...)
	for _, every := range []int{0, 5, 6, 100} {
		expectDecode(t, words(), one, every, l)
		expectDecodeError(t, words(), one, 4, every, api.ErrForm)
	}
	expectDecodeError(t, words(), one, 6, 0, api.ErrShort)
	expectDecodeError(t, words(), one, 6, 6, api.ErrShort)
}

// expectOnlyMarker replaces the second byte of a marker, which is at this index, by that of each other marker.
func expectOnlyMarker(t *testing.T, b []byte, n, at int) {
	t.Helper()
	right := b[at]
	for m := 1; m <= 254; m++ {
		if b[at] = byte(m); b[at] != right {
			expectDecodeError(t, words(), b, n, 1, api.ErrMark)
		}
	}
	// These are no markers.
	for _, m := range []byte{0, 255} {
		b[at] = m
		expectDecodeError(t, words(), b, n, 1, api.ErrForm)
	}
}

// A wrong marker comes before segments that cannot be decoded, wherever they are.
func TestDecodeWrongMarkers(t *testing.T) {
	for k := range 19 {
		good := slices.Repeat([][]byte{{0xb7}}, 20)
		expectOnlyMarker(t, joined(good...), 20, 3*k+2)
		for _, place := range []int{0, k, k + 1, 19} {
			for _, wrong := range [][]byte{nil, {0xb7, 0}, noSegment} {
				pieces := slices.Clone(good)
				pieces[place] = wrong
				expectOnlyMarker(t, joined(pieces...), 20, len(joined(pieces[:k+1]...))+1)
			}
		}
	}
}

func TestDecodeSwappedMarkers(t *testing.T) {
	expectDecodeError(t, words(), unhex("b7 ffd1 b7 ffd0 a7"), 3, 1, api.ErrMark)
	expectDecodeError(t, words(), unhex("b7 ffd1 b7 ffd2 a7"), 3, 1, api.ErrMark)
	expectDecodeError(t, words(), unhex("b7 ffd0 b7 ffd0 a7"), 3, 1, api.ErrMark)
	nine := unhex("b7 ffd0 b7 ffd1 b7 ffd2 b7 ffd3 b7 ffd4 b7 ffd5 b7 ffd6 b7 ffd7 b7 ffd0 b7")
	expectDecode(t, words(), nine, 1, slices.Repeat([]api.Block{{3}}, 10))
	nine[len(nine)-2] = 216
	expectDecodeError(t, words(), nine, 10, 1, api.ErrMark)
}

// Of several segments that cannot be decoded, the first one decides.
func TestDecodeSegmentErrors(t *testing.T) {
	wrongPieces := []struct {
		b    []byte
		want api.Errno
	}{
		{nil, api.ErrShort},
		{[]byte{255, 0}, api.ErrShort},
		{noSegment, api.ErrForm},
		{[]byte{0xb7, 0xb7}, api.ErrForm},
		{[]byte{0xb6}, api.ErrForm},
	}
	for n := 1; n <= 11; n++ {
		good := slices.Repeat([][]byte{{0xb7}}, n)
		for k := range n {
			for _, w := range wrongPieces {
				pieces := slices.Clone(good)
				pieces[k] = w.b
				expectDecodeError(t, words(), joined(pieces...), n, 1, w.want)
				for later := k + 1; later < n; later++ {
					for _, other := range wrongPieces {
						pieces[later] = other.b
						expectDecodeError(t, words(), joined(pieces...), n, 1, w.want)
					}
				}
			}
		}
	}
	// The last segment has fewer blocks.
	expectDecodeError(t, words(), unhex("b1 ffd0 b6"), 3, 2, api.ErrForm)
	expectDecodeError(t, words(), unhex("b1 ffd0"), 3, 2, api.ErrShort)
	expectDecodeError(t, words(), unhex("b1 ffd0 b1"), 3, 2, api.ErrForm)
	expectDecodeError(t, words(), unhex("b7 ffd0 b1"), 3, 2, api.ErrShort)
}

// The number 0 ahead of each segment is 0, and not that of the preceding segment's last block.
func TestDecodeNumberAhead(t *testing.T) {
	expectDecode(t, words(), unhex("b7 ffd0 3f"), 1, []api.Block{{3}, {0}})
	expectDecode(t, words(), unhex("b7 ffd0 b7 ffd1 3f"), 1, []api.Block{{3}, {3}, {0}})
	// 10 11111111111 0, and 0 000000000001 0 for a difference that is too large if the number ahead is not 2047
	x := api.Tables{First: chain(12, 11), Rest: chain(0)}
	expectDecode(t, x, unhex("bff8002f"), 2, []api.Block{{2047}, {-2047}})
	expectDecodeError(t, x, unhex("bffb ffd0 000b"), 2, 1, api.ErrForm)
	expectMend(t, x, unhex("bffb ffd0 000b"), 1, []api.Block{{2047}, {}}, 1)
}

// Bytes with one of them changed, removed or repeated, or with one more marker.
func TestChangedBytes(t *testing.T) {
	t.Parallel()
	r := samples.Sequence(22)
	seen := map[api.Errno]int{}
	losses := map[int]int{}
	check := func(x api.Tables, b []byte, n, every int) {
		t.Helper()
		want, e := modelDecode(x, b, n, every)
		if l, got := Decode(x, b, n, every); !slices.Equal(l, want) || got != e {
			t.Errorf("Decode of %d blocks in %x by %d: got %v and the error %d, want %v and the error %d", n, b, every, l, got, want, e)
		}
		seen[e]++
		mended, lost, e := modelMend(x, b, n, every)
		if e != api.OK {
			expectMendError(t, x, b, n, every, e)
			return
		}
		expectMend(t, x, b, every, mended, lost...)
		losses[len(lost)]++
	}
	for _, l := range lists() {
		if len(l) > 15 {
			continue
		}
		for _, every := range []int{0, 1, 3} {
			for _, x := range severalTables(t, l, every) {
				b := joined(modelPieces(t, x, l, every)...)
				for range min(len(b), 4) {
					i := r.Below(len(b))
					changed := slices.Clone(b)
					changed[i] ^= 1 << r.Below(8)
					check(x, changed, len(l), every)
					changed[i] = byte(r.Below(256))
					check(x, changed, len(l), every)
					check(x, slices.Delete(slices.Clone(b), i, i+1), len(l), every)
					check(x, slices.Insert(slices.Clone(b), i, b[i]), len(l), every)
					check(x, slices.Insert(slices.Clone(b), i, 255, byte(208+r.Below(8))), len(l), every)
					check(x, b[:i], len(l), every)
				}
			}
		}
	}
	for _, e := range []api.Errno{api.OK, api.ErrShort, api.ErrForm, api.ErrMark} {
		if seen[e] == 0 {
			t.Errorf("the error %d has not occurred", e)
		}
	}
	for n := range 5 {
		if losses[n] == 0 {
			t.Errorf("%d lost segments have not occurred", n)
		}
	}
}

// P2: neither the arguments nor their unused capacity change, and a result belongs to the caller.
func TestDecodeKeepsArguments(t *testing.T) {
	for _, l := range lists() {
		for _, every := range []int{0, 1, 5} {
			x := bestTables(t, l, every)
			x.First.Syms, x.Rest.Syms = samples.Roomy(x.First.Syms, -3), samples.Roomy(x.Rest.Syms, -4)
			b := samples.Roomy(joined(modelPieces(t, x, l, every)...), 255)
			first, rest, same := slices.Clone(x.First.Syms[:cap(x.First.Syms)]), slices.Clone(x.Rest.Syms[:cap(x.Rest.Syms)]), slices.Clone(b[:cap(b)])
			p, _ := Decode(x, b, len(l), every)
			q, _ := Decode(x, b, len(l), every)
			m, _, _ := Mend(x, b, len(l), every)
			o, _, _ := Mend(x, b, len(l), every)
			samples.Overwrite(q, api.Block{77})
			samples.Overwrite(o, api.Block{78})
			if !slices.Equal(p, l) || !slices.Equal(m, l) {
				t.Error("two results share memory")
			}
			samples.Overwrite(p, api.Block{79})
			samples.Overwrite(m, api.Block{80})
			for n := range len(l) + 1 {
				if n > 3 && n < len(l)-3 {
					continue
				}
				Decode(x, b, n, every)
				Mend(x, b, n, every)
			}
			Decode(x, b[:len(b)+1], len(l), every)
			Mend(x, b[:len(b)+1], len(l), every)
			Decode(x, b, len(l), -1)
			Mend(api.Tables{First: x.First}, b, len(l), every)
			if !slices.Equal(x.First.Syms[:cap(x.First.Syms)], first) || !slices.Equal(x.Rest.Syms[:cap(x.Rest.Syms)], rest) || !bytes.Equal(b[:cap(b)], same) {
				t.Error("the arguments have changed")
			}
			expectDecode(t, x, b, every, l)
		}
	}
}

// P2: a failed call leaves nothing behind that a later call could see.
func TestNoStateBetweenCalls(t *testing.T) {
	l := []api.Block{{3}, {3}, {2}}
	b := unhex("b7 ffd0 b7 ffd1 a7")
	for range 2 {
		expectDecodeError(t, words(), unhex("b7 ffd0 b7 ffd2 a7"), 3, 1, api.ErrMark)
		expectDecodeError(t, words(), unhex("b7 ffd0 b7"), 3, 1, api.ErrForm)
		expectDecodeError(t, words(), unhex("b7 ffd0 b7 ffd1"), 3, 1, api.ErrShort)
		expectMend(t, words(), unhex("b7 ffd0 b7"), 1, []api.Block{{3}, {3}, {}}, 2)
		expectEncodeError(t, words(), []api.Block{{3}, {7}}, 1, api.ErrNone)
		expectEncode(t, words(), l, 1, b)
		expectDecode(t, words(), b, 1, l)
		expectMend(t, words(), b, 1, l)
	}
}
