package bits

import (
	"bytes"
	"math"
	"slices"
	"strconv"
	"strings"
	"testing"

	"mezzotint/api"
)

// digits returns the number in width binary digits; no digits at all if the width is 0.
func digits(value, width int) string {
	if width == 0 {
		return ""
	}
	s := strconv.FormatInt(int64(value), 2)
	return strings.Repeat("0", width-len(s)) + s
}

// modelWrite is the definition of Write in terms of a text of binary digits.
func modelWrite(l []api.Field) []byte {
	var text strings.Builder
	for _, f := range l {
		text.WriteString(digits(f.Value, f.Width))
	}
	for text.Len()%8 != 0 {
		text.WriteByte('1')
	}
	var out []byte
	for s := text.String(); s != ""; s = s[8:] {
		n, err := strconv.ParseUint(s[:8], 2, 8)
		if err != nil {
			panic(err)
		}
		out = append(out, byte(n))
	}
	return out
}

// mixedFields returns n valid fields of all widths, the same ones in each run.
func mixedFields(n int) []api.Field {
	l := make([]api.Field, n)
	state := uint32(n + 1)
	next := func() int {
		state = state*1664525 + 1013904223
		return int(state >> 8)
	}
	for i := range l {
		w := next() % (api.MaxBits + 1)
		l[i] = api.Field{Width: w, Value: next() & (1<<w - 1)}
	}
	return l
}

func split(l []api.Field) (widths, values []int, total int) {
	for _, f := range l {
		widths = append(widths, f.Width)
		values = append(values, f.Value)
		total += f.Width
	}
	return widths, values, total
}

func expectWrite(t *testing.T, l []api.Field, want []byte) {
	t.Helper()
	if b, e := Write(l); !bytes.Equal(b, want) || e != api.OK {
		t.Errorf("Write of %d fields: got %x, %d, want %x", len(l), b, e, want)
	}
}

func expectWriteError(t *testing.T, l []api.Field, want api.Errno) {
	t.Helper()
	if b, e := Write(l); b != nil || e != want {
		t.Errorf("Write of %d fields: got %x, %d, want error %d", len(l), b, e, want)
	}
}

func expectRead(t *testing.T, b []byte, widths, want []int, bits int) {
	t.Helper()
	if l, n, e := Read(b, widths); !slices.Equal(l, want) || n != bits || e != api.OK {
		t.Errorf("Read of %d widths: got %v, %d, %d, want %v, %d", len(widths), l, n, e, want, bits)
	}
}

func expectReadError(t *testing.T, b []byte, widths []int, want api.Errno) {
	t.Helper()
	if l, n, e := Read(b, widths); l != nil || n != 0 || e != want {
		t.Errorf("Read of %d widths: got %v, %d, %d, want error %d", len(widths), l, n, e, want)
	}
}

func TestWriteExample(t *testing.T) {
	expectWrite(t, []api.Field{{Width: 3, Value: 2}}, []byte{0x5f})
}

func TestWriteOrdinary(t *testing.T) {
	expectWrite(t, []api.Field{{Width: 8, Value: 0xa5}}, []byte{0xa5})
	expectWrite(t, []api.Field{{Width: 4, Value: 0xa}, {Width: 4, Value: 5}}, []byte{0xa5})
	expectWrite(t, []api.Field{{Width: 4, Value: 1}, {Width: 8, Value: 0x23}, {Width: 4, Value: 4}}, []byte{0x12, 0x34})
	expectWrite(t, []api.Field{{Width: 1, Value: 1}, {Width: 24, Value: 0}}, []byte{0x80, 0, 0, 0x7f})
}

func TestWriteNothing(t *testing.T) {
	expectWrite(t, nil, nil)
	expectWrite(t, []api.Field{}, nil)
	expectWrite(t, []api.Field{{}, {}, {}}, nil)
}

func TestWriteWidthZero(t *testing.T) {
	expectWrite(t, []api.Field{{}, {Width: 8, Value: 7}, {}}, []byte{7})
	expectWrite(t, []api.Field{{Width: 3, Value: 2}, {}, {Width: 7, Value: 5}}, []byte{0x41, 0x7f})
}

func TestWriteWidestFields(t *testing.T) {
	expectWrite(t, []api.Field{{Width: 24, Value: 0x123456}}, []byte{0x12, 0x34, 0x56})
	expectWrite(t, []api.Field{{Width: 24, Value: 1<<24 - 1}}, []byte{0xff, 0xff, 0xff})
	expectWrite(t, []api.Field{{Width: 7, Value: 0}, {Width: 24, Value: 1<<24 - 1}, {Width: 24, Value: 1}},
		[]byte{0x01, 0xff, 0xff, 0xfe, 0, 0, 0x03})
}

func TestWriteUnusedBits(t *testing.T) {
	want := []byte{0x7f, 0x3f, 0x1f, 0x0f, 0x07, 0x03, 0x01, 0x00}
	for i, last := range want {
		expectWrite(t, []api.Field{{Width: i + 1}}, []byte{last})
		expectWrite(t, []api.Field{{Width: 8}, {Width: i + 1}}, []byte{0, last})
	}
}

func TestWriteAgainstModel(t *testing.T) {
	for n := range 300 {
		l := mixedFields(n)
		expectWrite(t, l, modelWrite(l))
	}
}

func TestWriteValueBounds(t *testing.T) {
	for w := 0; w <= api.MaxBits; w++ {
		greatest := api.Field{Width: w, Value: 1<<w - 1}
		expectWrite(t, []api.Field{greatest}, modelWrite([]api.Field{greatest}))
		for _, v := range []int{1 << w, 1<<w + 1, 1 << 40, math.MaxInt, -1, -1 << w, math.MinInt} {
			expectWriteError(t, []api.Field{{Width: w, Value: v}}, api.ErrArg)
		}
	}
}

func TestWriteWidthBounds(t *testing.T) {
	for _, w := range []int{-1, -8, math.MinInt, 25, 32, 63, 64, 65, math.MaxInt} {
		for _, v := range []int{0, 1, -1} {
			expectWriteError(t, []api.Field{{Width: w, Value: v}}, api.ErrArg)
		}
	}
}

func TestWriteErrorAnywhere(t *testing.T) {
	good := api.Field{Width: 9, Value: 300}
	for _, bad := range []api.Field{{Width: 25}, {Width: -1}, {Width: 2, Value: 4}, {Width: 2, Value: -1}} {
		expectWriteError(t, []api.Field{bad, good, good}, api.ErrArg)
		expectWriteError(t, []api.Field{good, bad, good}, api.ErrArg)
		expectWriteError(t, []api.Field{good, good, bad}, api.ErrArg)
	}
}

func TestWriteManyFields(t *testing.T) {
	l := mixedFields(api.MaxFields)
	expectWrite(t, l, modelWrite(l))
	expectWrite(t, make([]api.Field, api.MaxFields), nil)
	l[api.MaxFields-1] = api.Field{Width: -1}
	expectWriteError(t, l, api.ErrArg)

	l = mixedFields(api.MaxFields + 1)
	expectWriteError(t, l, api.ErrLarge)
	expectWriteError(t, make([]api.Field, api.MaxFields+1), api.ErrLarge)
	l[0] = api.Field{Width: -1}
	expectWriteError(t, l, api.ErrLarge)
}

func TestReadOrdinary(t *testing.T) {
	expectRead(t, []byte{0x5f}, []int{3}, []int{2}, 3)
	expectRead(t, []byte{0x5f}, []int{3, 5}, []int{2, 31}, 8)
	expectRead(t, []byte{0x41, 0x7f}, []int{3, 7}, []int{2, 5}, 10)
	expectRead(t, []byte{0x12, 0x34}, []int{4, 8, 4}, []int{1, 0x23, 4}, 16)
	expectRead(t, []byte{0xaa}, []int{1, 1, 1, 1, 1, 1, 1, 1}, []int{1, 0, 1, 0, 1, 0, 1, 0}, 8)
}

func TestReadNothing(t *testing.T) {
	expectRead(t, nil, nil, nil, 0)
	expectRead(t, []byte{}, []int{}, nil, 0)
	expectRead(t, []byte{1, 2, 3}, nil, nil, 0)
}

func TestReadWidthZero(t *testing.T) {
	expectRead(t, nil, []int{0, 0}, []int{0, 0}, 0)
	expectRead(t, []byte{0xff}, []int{0, 8, 0}, []int{0, 255, 0}, 8)
	expectRead(t, []byte{0xf0}, []int{4, 0, 4}, []int{15, 0, 0}, 8)
}

func TestReadWidestFields(t *testing.T) {
	expectRead(t, []byte{0x12, 0x34, 0x56}, []int{24}, []int{0x123456}, 24)
	expectRead(t, []byte{0xff, 0xff, 0xff, 0xff}, []int{24}, []int{1<<24 - 1}, 24)
	expectRead(t, []byte{0x01, 0xff, 0xff, 0xfe, 0, 0, 0x03}, []int{7, 24, 24}, []int{0, 1<<24 - 1, 1}, 55)
}

func TestReadWidthBounds(t *testing.T) {
	b := make([]byte, 100)
	for _, w := range []int{-1, -8, math.MinInt, 25, 32, 63, 64, 65, math.MaxInt} {
		expectReadError(t, b, []int{w}, api.ErrArg)
		expectReadError(t, b, []int{w, 5, 6}, api.ErrArg)
		expectReadError(t, b, []int{5, w, 6}, api.ErrArg)
		expectReadError(t, b, []int{5, 6, w}, api.ErrArg)
	}
}

func TestReadShort(t *testing.T) {
	expectReadError(t, nil, []int{1}, api.ErrShort)
	expectReadError(t, []byte{0}, []int{9}, api.ErrShort)
	expectReadError(t, []byte{0}, []int{8, 1}, api.ErrShort)
	expectReadError(t, []byte{0, 0}, []int{7, 10}, api.ErrShort)
	expectReadError(t, []byte{0, 0}, []int{24}, api.ErrShort)
	expectRead(t, []byte{0, 0}, []int{7, 9}, []int{0, 0}, 16)
	for w := 1; w <= api.MaxBits; w++ {
		enough := make([]byte, (w+7)/8)
		expectRead(t, enough, []int{w}, []int{0}, w)
		expectReadError(t, enough[:len(enough)-1], []int{w}, api.ErrShort)
	}
}

// The unused capacity of an argument is not part of it.
func TestReadIgnoresCapacity(t *testing.T) {
	expectReadError(t, make([]byte, 4)[:1], []int{9}, api.ErrShort)
	expectRead(t, make([]byte, 4), []int{3, 25}[:1], []int{0}, 3)
}

func TestReadErrorOrder(t *testing.T) {
	expectReadError(t, []byte{0}, []int{9, 25}, api.ErrShort)
	expectReadError(t, []byte{0}, []int{9, -1}, api.ErrShort)
	expectReadError(t, []byte{0}, []int{25, 9}, api.ErrArg)
	expectReadError(t, []byte{0}, []int{-1, 9}, api.ErrArg)
	expectReadError(t, []byte{0}, []int{8, 25}, api.ErrArg)
	expectReadError(t, nil, []int{25}, api.ErrArg)
	expectReadError(t, nil, []int{0, -1, 1}, api.ErrArg)
}

func TestReadManyWidths(t *testing.T) {
	zeros := make([]int, api.MaxFields)
	expectRead(t, nil, zeros, zeros, 0)
	ones := slices.Repeat([]int{1}, api.MaxFields)
	b := bytes.Repeat([]byte{255}, api.MaxFields/8)
	expectRead(t, b, ones, ones, api.MaxFields)
	expectReadError(t, b[1:], ones, api.ErrShort)

	expectReadError(t, nil, append(zeros, 0), api.ErrLarge)
	expectReadError(t, nil, append(ones, 1), api.ErrLarge)
	expectReadError(t, nil, append(ones, -1), api.ErrLarge)
	expectReadError(t, nil, slices.Repeat([]int{-1}, api.MaxFields+1), api.ErrLarge)
}

func TestReadRestoresWrite(t *testing.T) {
	for _, n := range []int{0, 1, 2, 3, 10, 100, 1000, api.MaxFields} {
		l := mixedFields(n)
		b, e := Write(l)
		if e != api.OK {
			t.Fatal(n, e)
		}
		widths, values, total := split(l)
		expectRead(t, b, widths, values, total)
		expectRead(t, append(b, 0, 1), widths, values, total)
	}
}

func TestReadAfterFirstBits(t *testing.T) {
	b := []byte{0x9c, 0x35, 0xe7, 0x0f, 0xd2, 0x68}
	text := ""
	for _, x := range b {
		text += digits(int(x), 8)
	}
	for first := 0; first <= api.MaxBits; first++ {
		for w := 1; w <= api.MaxBits; w++ {
			head, _ := strconv.ParseInt("0"+text[:first], 2, 64)
			want, _ := strconv.ParseInt(text[first:first+w], 2, 64)
			expectRead(t, b, []int{first, w}, []int{int(head), int(want)}, first+w)
		}
	}
}

// P2: neither the elements nor the unused capacity of an argument change.
func TestArgumentsUnchanged(t *testing.T) {
	l := mixedFields(60)
	fields := slices.Clone(l)
	b, _ := Write(l[:40])
	if !slices.Equal(l, fields) {
		t.Error("Write changed its argument")
	}
	l[30].Width = -1
	fields = slices.Clone(l)
	Write(l[:40])
	if !slices.Equal(l, fields) {
		t.Error("Write changed its invalid argument")
	}

	b = append(b, 9, 8, 7)
	widths, _, _ := split(mixedFields(60))
	same := slices.Clone(b)
	sameWidths := slices.Clone(widths)
	Read(b[:len(b)-3], widths[:40])
	Read(b[:3], widths[:40])
	if !bytes.Equal(b, same) || !slices.Equal(widths, sameWidths) {
		t.Error("Read changed an argument")
	}
}

// P2: results, with their capacity, belong to the caller: neither changing them nor changing an argument shows elsewhere.
func TestResultsAreNew(t *testing.T) {
	l := mixedFields(50)
	fields := slices.Clone(l)
	first, _ := Write(l)
	want := slices.Clone(first)
	second, _ := Write(l)
	overwrite(second, 0x55)
	if !bytes.Equal(first, want) || !slices.Equal(l, fields) {
		t.Error("results of Write share memory")
	}
	overwrite(l, api.Field{Width: 1, Value: 1})
	if !bytes.Equal(first, want) {
		t.Error("Write keeps its argument")
	}
	expectWrite(t, fields, want)

	widths, values, total := split(fields)
	sameWidths := slices.Clone(widths)
	one, _, _ := Read(first, widths)
	two, _, _ := Read(first, widths)
	overwrite(two, -7)
	if !slices.Equal(one, values) || !slices.Equal(widths, sameWidths) || !bytes.Equal(first, want) {
		t.Error("results of Read share memory")
	}
	overwrite(widths, 3)
	overwrite(first, 0)
	if !slices.Equal(one, values) {
		t.Error("Read keeps an argument")
	}
	expectRead(t, want, sameWidths, values, total)
}

// overwrite sets all elements of s, including those of its unused capacity.
func overwrite[T any](s []T, x T) {
	s = s[:cap(s)]
	for i := range s {
		s[i] = x
	}
}

// P2: a failed call leaves nothing behind that a later call could see.
func TestNoStateAfterErrors(t *testing.T) {
	expectWriteError(t, []api.Field{{Width: 3, Value: 7}, {Width: 25}}, api.ErrArg)
	expectWrite(t, []api.Field{{Width: 3, Value: 2}}, []byte{0x5f})
	expectReadError(t, []byte{0xff}, []int{5, 4}, api.ErrShort)
	expectRead(t, []byte{0x5f}, []int{3}, []int{2}, 3)
}

// P1: no combination of extreme numbers makes a function panic.
func TestNoPanic(t *testing.T) {
	extremes := []int{math.MinInt, math.MinInt + 1, -64, -1, 0, 1, 8, 23, 24, 25, 63, 64, math.MaxInt - 1, math.MaxInt}
	for _, x := range extremes {
		for _, y := range extremes {
			Write([]api.Field{{Width: x, Value: y}, {Width: y, Value: x}})
			for n := range 8 {
				Read(make([]byte, n), []int{x, y})
			}
		}
	}
}
