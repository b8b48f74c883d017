package file

import (
	"bytes"
	"encoding/hex"
	"math"
	"reflect"
	"slices"
	"strings"
	"testing"

	"mezzotint/api"
	"mezzotint/samples"
	"mezzotint/table"
	"mezzotint/zig"
)

// The samples that these tests use, by short names.
var (
	chain = samples.Chain
	flat  = samples.Flat
	with  = samples.Table
)

// wrongTables has a table for each error of table.Check, and for each reason for it.
var wrongTables = append(samples.WrongTables(), packableWrongTables()...)

// packableWrongTables returns wrong tables that can be written as bytes all the same, so that only Check notices them.
func packableWrongTables() []samples.WrongTable {
	tooMany := flat(16)
	tooMany.Counts[15]++
	tooMany.Syms = append(tooMany.Syms, 7)
	return []samples.WrongTable{
		{Table: tooMany, Error: api.ErrForm},                             // 257 symbols
		{Table: with([]int{3, 3}, 1, 1), Error: api.ErrForm},             // a symbol twice
		{Table: with([]int{0, 255, 0}, 0, 3), Error: api.ErrForm},        // the same, not side by side
		{Table: with([]int{1, 2}, 2), Error: api.ErrForm},                // the codeword 1
		{Table: with([]int{1, 2, 3}, 1, 2), Error: api.ErrForm},          // the codeword 11
		{Table: with([]int{5, 6, 7, 8, 9}, 0, 3, 2), Error: api.ErrForm}, // the codeword 111
		{Table: with([]int{1, 2, 3}, 3), Error: api.ErrForm},             // no codeword of one bit is left
		{Table: with([]int{1, 2, 3, 4}, 1, 1, 2), Error: api.ErrForm},    // the codeword 111 again
		{Table: with([]int{1, 2, 3, 4}, 2, 1, 1), Error: api.ErrForm},    // no codeword is left
	}
}

// extremes are numbers that no part of a file has. As bytes, some of them would look right.
var extremes = []int{-1, -2, -63, -255, 256, 257, 259, 320, 1000, 65537, math.MinInt32, math.MaxInt32, 1<<32 + 1, 1<<32 + 3, -1<<32 + 1, math.MinInt, math.MinInt + 1, math.MaxInt - 1, math.MaxInt}

// unhex returns bytes that are written out, with white space.
func unhex(text string) []byte {
	b, err := hex.DecodeString(strings.Join(strings.Fields(text), ""))
	if err != nil {
		panic(err)
	}
	return b
}

// all returns the block in which all numbers are n.
func all(n int) api.Block {
	var b api.Block
	for i := range b {
		b[i] = n
	}
	return b
}

// plain returns a file without symbols and data.
func plain() api.File {
	return api.File{Wide: 3, High: 2, Parts: 1, Quant: all(1)}
}

// greatest returns the file with the most bytes.
func greatest() api.File {
	f := api.File{Wide: 64, High: 64, Parts: 3, Every: 100, Quant: all(255)}
	f.Tables = api.Tables{First: flat(9), Rest: flat(16)}
	f.Data = bytes.Repeat([]byte{255}, 90000)
	return f
}

// tables returns tables with no symbols, some and 256.
func tables() []api.Table {
	backwards := flat(12)
	slices.Reverse(backwards.Syms)
	return []api.Table{
		{},
		chain(0),
		chain(255),
		chain(9, 4, 200),
		chain(0, 255, 1, 254, 128, 127, 2, 3, 4, 5, 6, 7, 8, 9, 10, 11),
		with([]int{7}, 0, 0, 0, 0, 0, 0, 0, 0, 0, 0, 0, 0, 0, 0, 0, 1),
		with([]int{200, 100, 0}, 0, 3),
		samples.Short(),
		flat(9),
		flat(16),
		backwards,
	}
}

// files returns small and large files, the greatest one among them.
func files() []api.File {
	out := []api.File{plain(), greatest()}
	r := samples.Sequence(12)
	for _, first := range tables() {
		for _, rest := range tables() {
			out = append(out, mixed(&r, first, rest, r.Below(1<<r.Below(12))))
		}
	}
	return append(out, mixed(&r, flat(9), chain(), 90000), mixed(&r, chain(), chain(3), 89999), mixed(&r, chain(4), chain(), 65536))
}

// mixed returns a file with these tables and size bytes of data.
func mixed(r *samples.Sequence, first, rest api.Table, size int) api.File {
	f := api.File{Wide: 1 + r.Below(64), High: 1 + r.Below(64), Parts: 1 + 2*r.Below(2), Every: r.Below(101), Tables: api.Tables{First: first, Rest: rest}}
	for i := range f.Quant {
		f.Quant[i] = 1 + r.Below(255)
	}
	f.Data = make([]byte, size)
	for i := range f.Data {
		f.Data[i] = byte(r.Below(256))
	}
	return f
}

// modelTable returns the bytes of a table.
func modelTable(x api.Table) []byte {
	b := make([]byte, 32+len(x.Syms))
	for k, n := range x.Counts {
		b[2*k], b[2*k+1] = byte(n/256), byte(n%256)
	}
	for i, s := range x.Syms {
		b[32+i] = byte(s)
	}
	return b
}

// modelPack returns the bytes that a file would have, even if Check has an error for it.
func modelPack(f api.File) []byte {
	b := make([]byte, 70)
	copy(b, "MZ")
	for i, n := range []int{f.Wide, f.High, f.Parts, f.Every} {
		b[2+i] = byte(n)
	}
	for i, at := range zig.Order() {
		b[6+i] = byte(f.Quant[at])
	}
	return slices.Concat(b, modelTable(f.Tables.First), modelTable(f.Tables.Rest), f.Data)
}

// modelRest returns what follows the table with which b begins; false if b ends before that.
func modelRest(b []byte) (api.Table, []byte, bool) {
	if len(b) < 32 {
		return api.Table{}, nil, false
	}
	var x api.Table
	size := 32
	for k := range x.Counts {
		x.Counts[k] = int(b[2*k])*256 + int(b[2*k+1])
		size += x.Counts[k]
	}
	if len(b) < size {
		return api.Table{}, nil, false
	}
	for _, s := range b[32:size] {
		x.Syms = append(x.Syms, int(s))
	}
	return x, b[size:], true
}

// modelParse says which error Parse has for b.
func modelParse(b []byte) api.Errno {
	if len(b) > 91000 {
		return api.ErrLarge
	}
	if len(b) < 70 {
		return api.ErrShort
	}
	first, after, found := modelRest(b[70:])
	if !found {
		return api.ErrShort
	}
	rest, data, found := modelRest(after)
	if !found {
		return api.ErrShort
	}
	inBounds := b[2] >= 1 && b[2] <= 64 && b[3] >= 1 && b[3] <= 64 && (b[4] == 1 || b[4] == 3) && b[5] <= 100
	right := string(b[:2]) == "MZ" && inBounds && bytes.IndexByte(b[6:70], 0) < 0
	if !right || table.Check(first) != api.OK || table.Check(rest) != api.OK || len(data) > 90000 {
		return api.ErrForm
	}
	return api.OK
}

// same tells whether two files are equal. An empty slice is as good as none.
func same(f, g api.File) bool {
	tablesAreSame := func(x, y api.Table) bool {
		return x.Counts == y.Counts && slices.Equal(x.Syms, y.Syms)
	}
	return f.Wide == g.Wide && f.High == g.High && f.Parts == g.Parts && f.Quant == g.Quant && f.Every == g.Every &&
		tablesAreSame(f.Tables.First, g.Tables.First) && tablesAreSame(f.Tables.Rest, g.Tables.Rest) && bytes.Equal(f.Data, g.Data)
}

// brief returns a file with less data, for messages.
func brief(f api.File) api.File {
	f.Data = f.Data[:min(len(f.Data), 20)]
	return f
}

// expectFile tests that f has these bytes, and the bytes this file.
func expectFile(t *testing.T, f api.File, b []byte) {
	t.Helper()
	if e := Check(f); e != api.OK {
		t.Errorf("Check of %v: got the error %d", brief(f), e)
	}
	if got, e := Pack(f); !bytes.Equal(got, b) || e != api.OK {
		t.Errorf("Pack of %v: got %d bytes and the error %d, want %d bytes: %.160x", brief(f), len(got), e, len(b), got)
	}
	expectParse(t, b, f)
}

func expectParse(t *testing.T, b []byte, want api.File) {
	t.Helper()
	f, e := Parse(b)
	if !same(f, want) || e != api.OK {
		t.Errorf("Parse of %d bytes %.160x: got %v and the error %d, want %v", len(b), b, brief(f), e, brief(want))
		return
	}
	if again, e := Pack(f); !bytes.Equal(again, b) || e != api.OK {
		t.Errorf("Pack of what Parse returns: got %d bytes and the error %d, want %.160x", len(again), e, b)
	}
}

// expectWrong tests that f has an error, for which Pack returns no bytes.
func expectWrong(t *testing.T, f api.File, want api.Errno) {
	t.Helper()
	if e := Check(f); e != want {
		t.Errorf("Check of %v: got the error %d, want %d", brief(f), e, want)
	}
	if b, e := Pack(f); len(b) != 0 || e != want {
		t.Errorf("Pack of %v: got %d bytes and the error %d, want none and the error %d", brief(f), len(b), e, want)
	}
}

// expectParseError tests an error of Parse, beside which the file is zero.
func expectParseError(t *testing.T, b []byte, want api.Errno) {
	t.Helper()
	if f, e := Parse(b); !reflect.DeepEqual(f, api.File{}) || e != want {
		t.Errorf("Parse of %d bytes %.160x: got %v and the error %d, want the zero file and the error %d", len(b), b, brief(f), e, want)
	}
}

// expectModel tests that Parse has the error that the model says, or returns the file with the bytes b.
func expectModel(t *testing.T, b []byte) api.Errno {
	t.Helper()
	want := modelParse(b)
	if want != api.OK {
		expectParseError(t, b, want)
		return want
	}
	f, e := Parse(b)
	if e != api.OK || !bytes.Equal(modelPack(f), b) {
		t.Errorf("Parse of %d bytes %.160x: got %v and the error %d", len(b), b, brief(f), e)
	}
	expectFile(t, f, b)
	return want
}
