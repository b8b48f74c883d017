package frame

import (
	"slices"
	"testing"

	"mezzotint/api"
	"mezzotint/samples"
)

// plainFile returns a file of six blocks, in segments of two.
func plainFile(t *testing.T) api.File {
	t.Helper()
	return encoded(t, slope(9, 8, 3), even(4), 2)
}

// expectFileError tests an error of file.Check, with good data and with data that scan.Decode refuses.
func expectFileError(t *testing.T, f api.File, want api.Errno) {
	t.Helper()
	expectDecodeError(t, f, want)
	for _, data := range [][]byte{nil, {255}, {255, 1}, {0, 255, 215, 0}, f.Data[:len(f.Data)/2]} {
		f.Data = data
		expectDecodeError(t, f, want)
	}
}

func TestDecodeZeroFile(t *testing.T) {
	expectDecodeError(t, api.File{}, api.ErrArg)
}

func TestDecodeWrongSizes(t *testing.T) {
	for _, wrong := range wrongSides {
		f := plainFile(t)
		f.Wide = wrong
		expectFileError(t, f, api.ErrArg)
		f.High = wrong
		expectFileError(t, f, api.ErrArg)
		f.Wide = 9
		expectFileError(t, f, api.ErrArg)
	}
}

func TestDecodeWrongParts(t *testing.T) {
	for _, wrong := range append([]int{0, 2, 4, -1, -3, 5, 6, 64, 257, 259}, extremes...) {
		f := plainFile(t)
		f.Parts = wrong
		expectFileError(t, f, api.ErrArg)
	}
}

func TestDecodeWrongEvery(t *testing.T) {
	for _, wrong := range wrongEvery {
		f := plainFile(t)
		f.Every = wrong
		expectFileError(t, f, api.ErrArg)
	}
}

func TestDecodeWrongQuants(t *testing.T) {
	for _, wrong := range wrongQuants {
		f := plainFile(t)
		for i := range 64 {
			f.Quant = changed(even(3), i, wrong)
			expectFileError(t, f, api.ErrArg)
		}
	}
}

func TestDecodeWrongTables(t *testing.T) {
	f := plainFile(t)
	for _, wrong := range samples.WrongTables() {
		g := f
		g.Tables.First = wrong.Table
		expectFileError(t, g, wrong.Error)
		for _, other := range samples.WrongTables() {
			g.Tables.Rest = other.Table
			expectFileError(t, g, wrong.Error)
		}
		g.Tables.First = f.Tables.First
		g.Tables.Rest = wrong.Table
		expectFileError(t, g, wrong.Error)
		// The other errors of file.Check come first.
		for _, h := range []api.File{{Wide: 65, High: 8, Parts: 3}, {Wide: 9, High: 0, Parts: 3}, {Wide: 9, High: 8, Parts: 2}, {Wide: 9, High: 8, Parts: 3, Every: 101}, {Wide: 9, High: 8, Parts: 3}} {
			h.Tables = g.Tables
			expectFileError(t, h, api.ErrArg)
		}
	}
}

func TestDecodeTooMuchData(t *testing.T) {
	f := plainFile(t)
	f.Data = append(slices.Clone(f.Data), make([]byte, 90000)...)
	expectDecodeError(t, f, api.ErrLarge)
	f.Data = all(90001, byte(255)) // stuff.Split would refuse it as well
	expectDecodeError(t, f, api.ErrLarge)
	f.Data = all(90000, byte(255))
	expectDecodeError(t, f, api.ErrForm)
	f.Tables.Rest = samples.Table([]int{0, 256}, 1, 1)
	f.Data = make([]byte, 90001)
	expectDecodeError(t, f, api.ErrArg)
}

// Three segments, each with its own bytes: see TestDecodeWrittenOut.
func written(data string) api.File {
	words := api.Tables{First: samples.Chain(0, 1, 2), Rest: samples.Chain(0, 1)}
	return api.File{Wide: 5, High: 2, Parts: 3, Quant: even(8), Tables: words, Every: 1, Data: []byte(data)}
}

func TestDecodeWrongData(t *testing.T) {
	for _, c := range []struct {
		data string
		want api.Errno
	}{
		{"\xdb\xff\xd0\xdb\xff\xd1\xdb", api.OK},
		{"", api.ErrForm},                                         // two missing pieces
		{"\xdb", api.ErrForm},                                     // the same
		{"\xdb\xff\xd0\xdb", api.ErrForm},                         // a missing piece
		{"\xdb\xff\xd0\xdb\xff\xd1\xdb\xff\xd2\xdb", api.ErrForm}, // a surplus one
		{"\xdb\xff\xd0\xdb\xff\xd1\xdb\xff\xd2", api.ErrForm},     // an empty surplus one
		{"\xdb\xff\xd0\xdb\xff\xd1\xdb\xff", api.ErrForm},         // no marker
		{"\xdb\xff\xff\xd0\xdb\xff\xd1\xdb", api.ErrForm},         // no marker either
		{"\xdb\xff\x01\xdb\xff\xd1\xdb", api.ErrMark},             // a marker that no file has
		{"\xdb\xff\xd8\xdb\xff\xd1\xdb", api.ErrMark},             // another one
		{"\xdb\xff\xd1\xdb\xff\xd1\xdb", api.ErrMark},
		{"\xdb\xff\xd0\xdb\xff\xd2\xdb", api.ErrMark},
		{"\xdb\xff\xd1\xdb\xff\xd0\xdb", api.ErrMark},
		{"\xdb\xff\xd7\xdb\xff\xd1\xdb", api.ErrMark},
		{"\xff\xd1\xdb\xff\xd1\xdb", api.ErrMark},         // before the missing bits
		{"\xff\xd0\xdb\xff\xd1\xdb", api.ErrShort},        // no bits of the first segment
		{"\xdb\xff\xd0\xff\xd1\xdb", api.ErrShort},        // of the second one
		{"\xdb\xff\xd0\xdb\xff\xd1", api.ErrShort},        // of the third one
		{"\xdb\xdb\xff\xd0\xdb\xff\xd1\xdb", api.ErrForm}, // surplus bytes
		{"\xdb\xff\xd0\xdb\xff\xd1\xdb\xff\x00", api.ErrForm},
		{"\xda\xff\xd0\xdb\xff\xd1\xdb", api.ErrForm},                     // a fill bit 0
		{"\xdb\xff\xd0\xff\x00\xff\x00\xff\x00\xff\xd1\xdb", api.ErrForm}, // no codeword
		{"\xdb\xff\xd0\xda\xff\xd1", api.ErrForm},                         // the error of the first wrong segment
		{"\xff\xd0\xda\xff\xd1\xdb", api.ErrShort},                        // the same
	} {
		f := written(c.data)
		if c.want == api.OK {
			expectDecode(t, f, uniform(5, 2, 135, 128, 136))
			continue
		}
		expectDecodeError(t, f, c.want)
		f.Quant[63] = 0 // an error of file.Check comes first
		expectDecodeError(t, f, api.ErrArg)
	}
}

// Each cut of the data is noticed, and each further byte.
func TestDecodeCutData(t *testing.T) {
	for _, every := range []int{0, 1, 2, 3, 100} {
		for _, p := range []api.Picture{slope(20, 9, 3), slope(20, 9, 1)} {
			f := encoded(t, p, even(4), every)
			data := f.Data
			for n := range len(data) {
				f.Data = data[:n]
				if got, e := Decode(f); e == api.OK || len(got.Parts) != 0 || got.Wide != 0 || got.High != 0 {
					t.Errorf("Decode of %d of %d bytes: got %s and the error %d", n, len(data), brief(got), e)
				}
			}
			for x := range 256 {
				f.Data = append(slices.Clone(data), byte(x))
				expectDecodeError(t, f, api.ErrForm)
			}
		}
	}
}

// The number of blocks is that of the file, not that of the data.
func TestDecodeOtherSizes(t *testing.T) {
	f := encoded(t, uniform(9, 8, 131, 131, 131), even(8), 0)
	f.Wide = 8
	expectDecodeError(t, f, api.ErrForm)
	f.Wide = 17
	expectDecodeError(t, f, api.ErrShort)
	f.Wide, f.High = 16, 8
	expectDecode(t, f, uniform(16, 8, 131, 131, 131))
	f.Wide, f.High = 3, 16
	expectDecode(t, f, uniform(3, 16, 131, 131, 131))
	f.Wide, f.High, f.Parts = 48, 1, 1
	want := uniform(48, 1, 128)
	copy(want.Parts[0], all(16, 131))
	expectDecode(t, f, want)
	f.Wide = 40
	expectDecodeError(t, f, api.ErrForm)
}

// P1: bytes of all kinds, changed ones among them.
func TestDecodeChangedData(t *testing.T) {
	r := samples.Sequence(22)
	for _, every := range []int{0, 1, 2} {
		f := encoded(t, slope(20, 9, 3), even(4), every)
		data := f.Data
		for range 3000 {
			f.Data = slices.Clone(data)
			for range 1 + r.Below(3) {
				f.Data[r.Below(len(data))] = byte(r.Below(256))
			}
			if p, e := Decode(f); (e == api.OK) != (Check(p) == api.OK) {
				t.Fatalf("Decode of %x: got %v and the error %d", f.Data, p, e)
			}
		}
	}
}
