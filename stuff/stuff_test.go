package stuff

import (
	"bytes"
	"slices"
	"testing"

	"mezzotint/api"
)

// texts calls f with each text of up to longest bytes over an alphabet with all the kinds of bytes that the chapter distinguishes.
func texts(longest int, f func(b []byte)) {
	alphabet := []byte{0, 1, 208, 254, 255}
	level := [][]byte{{}}
	for n := 0; ; n++ {
		var next [][]byte
		for _, b := range level {
			f(b)
			for _, x := range alphabet {
				next = append(next, append(slices.Clone(b), x))
			}
		}
		if n == longest {
			return
		}
		level = next
	}
}

// mixedBytes returns n bytes, the same ones in each run, of which every fourth or so is 255.
func mixedBytes(n int) []byte {
	b := make([]byte, n)
	state := uint32(n + 1)
	for i := range b {
		state = state*1664525 + 1013904223
		b[i] = byte(state >> 16)
		if state>>30 == 0 {
			b[i] = 255
		}
	}
	return b
}

// modelStuff is the definition of Stuff in terms of replacement.
func modelStuff(b []byte) []byte {
	return bytes.ReplaceAll(b, []byte{255}, []byte{255, 0})
}

// modelPlain tests for bytes 255 that lack their byte 0 by their number.
func modelPlain(b []byte) ([]byte, api.Errno) {
	if bytes.Count(b, []byte{255}) != bytes.Count(b, []byte{255, 0}) {
		return nil, api.ErrForm
	}
	return bytes.ReplaceAll(b, []byte{255, 0}, []byte{255}), api.OK
}

// modelSplit takes one piece off the beginning, and the rest by itself.
func modelSplit(b []byte) ([][]byte, []int, api.Errno) {
	if bytes.HasSuffix(b, []byte{255}) || bytes.Contains(b, []byte{255, 255}) {
		return nil, nil, api.ErrForm
	}
	for i := range b {
		if b[i] == 255 && b[i+1] != 0 {
			pieces, markers, e := modelSplit(b[i+2:])
			return append([][]byte{b[:i]}, pieces...), append([]int{int(b[i+1])}, markers...), e
		}
	}
	return [][]byte{b}, nil, api.OK
}

func samePieces(x, y [][]byte) bool {
	return slices.EqualFunc(x, y, bytes.Equal)
}

func expectStuff(t *testing.T, b, want []byte) {
	t.Helper()
	if s := Stuff(b); !bytes.Equal(s, want) {
		t.Errorf("Stuff of %v: got %v, want %v", b, s, want)
	}
}

func expectPlain(t *testing.T, b, want []byte) {
	t.Helper()
	if p, e := Plain(b); !bytes.Equal(p, want) || e != api.OK {
		t.Errorf("Plain of %v: got %v, %d, want %v", b, p, e, want)
	}
}

func expectPlainError(t *testing.T, b []byte) {
	t.Helper()
	if p, e := Plain(b); p != nil || e != api.ErrForm {
		t.Errorf("Plain of %v: got %v, %d, want ErrForm", b, p, e)
	}
}

func expectSplit(t *testing.T, b []byte, pieces [][]byte, markers []int) {
	t.Helper()
	if l, m, e := Split(b); !samePieces(l, pieces) || !slices.Equal(m, markers) || e != api.OK {
		t.Errorf("Split of %v: got %v, %v, %d, want %v, %v", b, l, m, e, pieces, markers)
	}
}

func expectSplitError(t *testing.T, b []byte) {
	t.Helper()
	if l, m, e := Split(b); l != nil || m != nil || e != api.ErrForm {
		t.Errorf("Split of %v: got %v, %v, %d, want ErrForm", b, l, m, e)
	}
}

func TestStuffExample(t *testing.T) {
	expectStuff(t, []byte{255}, []byte{255, 0})
}

func TestStuffOrdinary(t *testing.T) {
	expectStuff(t, nil, nil)
	expectStuff(t, []byte{}, nil)
	expectStuff(t, []byte{0}, []byte{0})
	expectStuff(t, []byte{1, 2, 254, 0}, []byte{1, 2, 254, 0})
}

func TestStuffPlaces(t *testing.T) {
	expectStuff(t, []byte{255, 1, 2}, []byte{255, 0, 1, 2})
	expectStuff(t, []byte{1, 255, 2}, []byte{1, 255, 0, 2})
	expectStuff(t, []byte{1, 2, 255}, []byte{1, 2, 255, 0})
	expectStuff(t, []byte{255, 255}, []byte{255, 0, 255, 0})
	expectStuff(t, []byte{255, 255, 255, 9}, []byte{255, 0, 255, 0, 255, 0, 9})
	expectStuff(t, []byte{255, 0}, []byte{255, 0, 0})
	expectStuff(t, []byte{255, 208}, []byte{255, 0, 208})
	expectStuff(t, bytes.Repeat([]byte{255}, 1000), bytes.Repeat([]byte{255, 0}, 1000))
}

func TestPlainOrdinary(t *testing.T) {
	expectPlain(t, nil, nil)
	expectPlain(t, []byte{}, nil)
	expectPlain(t, []byte{0}, []byte{0})
	expectPlain(t, []byte{1, 2, 254, 0}, []byte{1, 2, 254, 0})
}

func TestPlainPlaces(t *testing.T) {
	expectPlain(t, []byte{255, 0}, []byte{255})
	expectPlain(t, []byte{255, 0, 1, 2}, []byte{255, 1, 2})
	expectPlain(t, []byte{1, 255, 0, 2}, []byte{1, 255, 2})
	expectPlain(t, []byte{1, 2, 255, 0}, []byte{1, 2, 255})
	expectPlain(t, []byte{255, 0, 255, 0}, []byte{255, 255})
	expectPlain(t, []byte{255, 0, 0}, []byte{255, 0})
	expectPlain(t, []byte{255, 0, 0, 0}, []byte{255, 0, 0})
}

func TestPlainErrors(t *testing.T) {
	expectPlainError(t, []byte{255})
	expectPlainError(t, []byte{1, 2, 255})
	expectPlainError(t, []byte{255, 0, 255})
	expectPlainError(t, []byte{255, 255, 0})
	expectPlainError(t, []byte{255, 255})
	for x := 1; x <= 255; x++ {
		expectPlainError(t, []byte{255, byte(x)})
		expectPlainError(t, []byte{255, byte(x), 0})
		expectPlainError(t, []byte{255, byte(x), 1, 2})
		expectPlainError(t, []byte{1, 255, 0, 255, byte(x)})
	}
}

func TestPlainRestoresStuff(t *testing.T) {
	for _, n := range []int{0, 1, 2, 3, 10, 100, 1000, api.MaxBytes, 2 * api.MaxBytes} {
		b := mixedBytes(n)
		s := Stuff(b)
		expectStuff(t, b, modelStuff(b))
		expectPlain(t, s, b)
		expectSplit(t, s, [][]byte{s}, nil)
	}
}

func TestSplitExample(t *testing.T) {
	expectSplit(t, []byte{1, 255, 208, 2}, [][]byte{{1}, {2}}, []int{208})
}

func TestSplitWithoutMarkers(t *testing.T) {
	expectSplit(t, nil, [][]byte{{}}, nil)
	expectSplit(t, []byte{}, [][]byte{{}}, nil)
	expectSplit(t, []byte{0}, [][]byte{{0}}, nil)
	expectSplit(t, []byte{1, 2, 3}, [][]byte{{1, 2, 3}}, nil)
	expectSplit(t, []byte{255, 0}, [][]byte{{255, 0}}, nil)
	expectSplit(t, []byte{0, 255, 0, 255, 0, 0}, [][]byte{{0, 255, 0, 255, 0, 0}}, nil)
}

func TestSplitOrdinary(t *testing.T) {
	expectSplit(t, []byte{1, 2, 255, 208, 3, 255, 209, 4, 5, 6}, [][]byte{{1, 2}, {3}, {4, 5, 6}}, []int{208, 209})
	expectSplit(t, []byte{1, 255, 7, 2, 255, 7, 3}, [][]byte{{1}, {2}, {3}}, []int{7, 7})
}

// A byte 255 followed by 0 is part of its piece, wherever it is in it.
func TestSplitKeepsStuffing(t *testing.T) {
	expectSplit(t, []byte{1, 255, 0, 2, 255, 208, 3}, [][]byte{{1, 255, 0, 2}, {3}}, []int{208})
	expectSplit(t, []byte{1, 255, 0, 255, 208, 2}, [][]byte{{1, 255, 0}, {2}}, []int{208})
	expectSplit(t, []byte{1, 255, 208, 255, 0, 2}, [][]byte{{1}, {255, 0, 2}}, []int{208})
	expectSplit(t, []byte{1, 255, 208, 2, 255, 0}, [][]byte{{1}, {2, 255, 0}}, []int{208})
	expectSplit(t, []byte{255, 0, 255, 208, 255, 0}, [][]byte{{255, 0}, {255, 0}}, []int{208})
	expectSplit(t, []byte{255, 0, 208, 255, 1, 0}, [][]byte{{255, 0, 208}, {0}}, []int{1})
}

func TestSplitEmptyPieces(t *testing.T) {
	expectSplit(t, []byte{255, 208}, [][]byte{{}, {}}, []int{208})
	expectSplit(t, []byte{255, 208, 1}, [][]byte{{}, {1}}, []int{208})
	expectSplit(t, []byte{1, 255, 208}, [][]byte{{1}, {}}, []int{208})
	expectSplit(t, []byte{1, 255, 208, 255, 209, 2}, [][]byte{{1}, {}, {2}}, []int{208, 209})
	expectSplit(t, []byte{255, 1, 255, 2, 255, 3}, [][]byte{{}, {}, {}, {}}, []int{1, 2, 3})
}

func TestSplitSecondBytes(t *testing.T) {
	for x := 1; x <= 254; x++ {
		expectSplit(t, []byte{4, 255, byte(x), 5}, [][]byte{{4}, {5}}, []int{x})
	}
	expectSplit(t, []byte{4, 255, 0, 5}, [][]byte{{4, 255, 0, 5}}, nil)
	expectSplitError(t, []byte{4, 255, 255, 5})
}

func TestSplitErrors(t *testing.T) {
	expectSplitError(t, []byte{255})
	expectSplitError(t, []byte{1, 2, 255})
	expectSplitError(t, []byte{255, 0, 255})
	expectSplitError(t, []byte{1, 255, 208, 2, 255})
	expectSplitError(t, []byte{1, 255, 208, 255})
	expectSplitError(t, []byte{255, 255})
	expectSplitError(t, []byte{255, 255, 0})
	expectSplitError(t, []byte{255, 255, 208})
	expectSplitError(t, []byte{1, 255, 208, 2, 255, 255, 209, 3})
	expectSplitError(t, []byte{1, 255, 208, 255, 255, 0})
}

func TestSplitManyPieces(t *testing.T) {
	b := bytes.Repeat([]byte{9, 255, 0, 255, 208}, 5000)
	pieces := append(slices.Repeat([][]byte{{9, 255, 0}}, 5000), nil)
	expectSplit(t, b, pieces, slices.Repeat([]int{208}, 5000))
}

// The pieces and markers, put together again, are the argument.
func TestSplitLosesNothing(t *testing.T) {
	texts(5, func(b []byte) {
		l, m, e := Split(b)
		if e != api.OK {
			return
		}
		if len(l) != len(m)+1 {
			t.Fatalf("Split of %v: %d pieces, %d markers", b, len(l), len(m))
		}
		joined := slices.Clone(l[0])
		for i, x := range m {
			joined = append(append(joined, 255, byte(x)), l[i+1]...)
		}
		if !bytes.Equal(joined, b) {
			t.Errorf("Split of %v loses bytes: %v, %v", b, l, m)
		}
	})
}

func TestAgainstModels(t *testing.T) {
	texts(6, func(b []byte) {
		expectStuff(t, b, modelStuff(b))
		if want, e := modelPlain(b); e == api.OK {
			expectPlain(t, b, want)
		} else {
			expectPlainError(t, b)
		}
		if pieces, markers, e := modelSplit(b); e == api.OK {
			expectSplit(t, b, pieces, markers)
		} else {
			expectSplitError(t, b)
		}
	})
}

// The unused capacity of an argument is not part of it.
func TestCapacityIgnored(t *testing.T) {
	b := []byte{1, 255, 0, 255, 208, 2}
	expectPlainError(t, b[:2])
	expectSplitError(t, b[:2])
	expectPlainError(t, b[:4])
	expectSplitError(t, b[:4])
	expectPlain(t, b[:3], []byte{1, 255})
	expectSplit(t, b[:3], [][]byte{{1, 255, 0}}, nil)
	expectSplit(t, b[:5], [][]byte{{1, 255, 0}, {}}, []int{208})
}

// P2: neither the elements nor the unused capacity of an argument change.
func TestArgumentsUnchanged(t *testing.T) {
	texts(4, func(b []byte) {
		whole := append(slices.Clone(b), 255, 255, 7, 7, 7, 7, 7, 7)
		same := slices.Clone(whole)
		arg := whole[:len(b)]
		Stuff(arg)
		Plain(arg)
		Split(arg)
		if !bytes.Equal(whole, same) {
			t.Errorf("the argument %v has become %v", same, whole)
		}
	})
}

// overwrite sets all elements of s, including those of its unused capacity.
func overwrite[T any](s []T, x T) {
	s = s[:cap(s)]
	for i := range s {
		s[i] = x
	}
}

// P2: Stuff and Plain return new memory, even where nothing is inserted or removed.
func TestBytesAreNew(t *testing.T) {
	plain := func(b []byte) []byte {
		p, _ := Plain(b)
		return p
	}
	for _, f := range []func([]byte) []byte{Stuff, plain} {
		for _, b := range [][]byte{{}, {1, 2, 3}, {255, 0}, {1, 255, 0, 2}} {
			whole := append(slices.Clone(b), 3, 4, 5)
			same := slices.Clone(whole)
			arg := whole[:len(b)]
			first, second := f(arg), f(arg)
			want := slices.Clone(first)
			overwrite(second, 99)
			if !bytes.Equal(whole, same) || !bytes.Equal(first, want) || !bytes.Equal(f(arg), want) {
				t.Errorf("a result for %v shares memory", b)
			}
			overwrite(whole, 88)
			if !bytes.Equal(first, want) {
				t.Errorf("the argument %v is kept", b)
			}
		}
	}
}

// P2: no piece of Split shares memory with the argument, with another piece or with another call's results.
func TestPiecesAreNew(t *testing.T) {
	for _, b := range [][]byte{{}, {1, 2, 3}, {255, 0}, {255, 208}, {1, 2, 255, 208, 3, 4, 255, 0, 255, 209, 255, 210, 5}} {
		whole := append(slices.Clone(b), 3, 4, 5)
		same := slices.Clone(whole)
		arg := whole[:len(b)]
		pieces, markers, _ := modelSplit(same[:len(b)])
		for k := range pieces {
			l, m, _ := Split(arg)
			other, otherMarkers, _ := Split(arg)
			overwrite(l[k], 99)
			l[k] = pieces[k]
			if !samePieces(l, pieces) || !samePieces(other, pieces) || !bytes.Equal(whole, same) {
				t.Errorf("piece %d of %v shares memory", k, b)
			}
			overwrite(l, nil)
			overwrite(m, 99)
			if !samePieces(other, pieces) || !slices.Equal(otherMarkers, markers) {
				t.Errorf("two results for %v share memory", b)
			}
		}
		l, m, _ := Split(arg)
		overwrite(whole, 88)
		if !samePieces(l, pieces) || !slices.Equal(m, markers) {
			t.Errorf("the argument %v is kept", b)
		}
	}
}

// P2: a failed call leaves nothing behind that a later call could see.
func TestNoStateAfterErrors(t *testing.T) {
	expectPlainError(t, []byte{1, 255})
	expectPlain(t, []byte{0, 2}, []byte{0, 2})
	expectSplitError(t, []byte{1, 255, 208, 2, 255})
	expectSplit(t, []byte{209, 3}, [][]byte{{209, 3}}, nil)
}
