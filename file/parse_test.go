package file

import (
	"bytes"
	"slices"
	"testing"

	"mezzotint/api"
	"mezzotint/samples"
)

// small returns a file whose tables and data have a few bytes each.
func small() api.File {
	f := api.File{Wide: 64, High: 1, Parts: 3, Every: 100, Quant: all(3), Data: []byte{9, 255, 0, 8}}
	f.Tables.First = chain(9, 4, 200)
	f.Tables.Rest = with([]int{17, 255, 0, 128}, 0, 1, 3)
	return f
}

// dataAt returns where Data begins in the bytes of f.
func dataAt(f api.File) int {
	return 134 + len(f.Tables.First.Syms) + len(f.Tables.Rest.Syms)
}

func TestParseLarge(t *testing.T) {
	beginnings := [][]byte{nil, {'M'}, []byte("MZ"), []byte("ZM"), modelPack(plain()), modelPack(small()), modelPack(greatest()), {255, 255}}
	for _, start := range beginnings {
		for _, fill := range []byte{0, 1, 255} {
			b := append(slices.Clone(start), bytes.Repeat([]byte{fill}, 92000)...)
			for _, n := range []int{91001, 91002, len(b)} {
				expectParseError(t, b[:n], api.ErrLarge)
			}
			for _, n := range []int{90999, 91000} {
				if e := expectModel(t, b[:n]); e != api.ErrShort && e != api.ErrForm {
					t.Errorf("%d bytes that begin with %.10x: the model has the error %d", n, b, e)
				}
			}
		}
	}
}

// At most 91000 bytes, but more than 90000 of data.
func TestParseMuchData(t *testing.T) {
	for _, f := range []api.File{plain(), small(), greatest()} {
		head := modelPack(f)[:dataAt(f)]
		b := append(slices.Clone(head), bytes.Repeat([]byte{5}, 91000)...)
		for n := len(head) + 90001; n <= 91000; n++ {
			if n > len(head)+90010 && n < 90990 {
				continue
			}
			expectParseError(t, b[:n], api.ErrForm)
		}
		for n := len(head) + 89990; n <= len(head)+90000; n++ {
			f.Data = b[len(head):n]
			expectParse(t, b[:n], f)
		}
	}
}

// Each part of the bytes from the front lacks some of them ahead of Data, or is a file with less of it.
func TestParseCutOff(t *testing.T) {
	expectParseError(t, nil, api.ErrShort)
	expectParseError(t, []byte{}, api.ErrShort)
	list := []api.File{plain(), small()}
	for _, first := range tables() {
		f := small()
		f.Tables.First = first
		g := f
		g.Tables = api.Tables{First: f.Tables.Rest, Rest: first}
		list = append(list, f, g)
	}
	for _, f := range list {
		b := modelPack(f)
		for n := range len(b) + 1 {
			if n < dataAt(f) {
				expectParseError(t, b[:n], api.ErrShort)
				continue
			}
			less := f
			less.Data = b[dataAt(f):n]
			expectParse(t, b[:n], less)
		}
	}
}

// What is wrong with the bytes shows only if none is missing ahead of Data.
func TestParseCutOffAndWrong(t *testing.T) {
	f := small()
	b := modelPack(f)
	for _, w := range []struct {
		at int
		to byte
	}{{0, 'X'}, {0, 'm'}, {1, 'M'}, {2, 0}, {2, 65}, {3, 0}, {3, 255}, {4, 2}, {5, 101}, {6, 0}, {69, 0}, {102, 4}, {103, 9}} {
		wrong := slices.Clone(b)
		wrong[w.at] = w.to
		for n := w.at + 1; n <= len(b); n++ {
			if n < dataAt(f) {
				expectParseError(t, wrong[:n], api.ErrShort)
			} else {
				expectParseError(t, wrong[:n], api.ErrForm)
			}
		}
	}
	for n := range 134 {
		expectParseError(t, make([]byte, n), api.ErrShort)
		expectParseError(t, bytes.Repeat([]byte{255}, n), api.ErrShort)
	}
	expectParseError(t, make([]byte, 134), api.ErrForm)
	for n := 134; n <= 91000; n += 1009 {
		expectParseError(t, bytes.Repeat([]byte{255}, n), api.ErrShort)
	}
}

// expectPromise tests that a table which promises more symbols than there may be is ErrShort if they are missing, and ErrForm if they are there.
func expectPromise(t *testing.T, x api.Table, promised int) {
	t.Helper()
	head := modelPack(small())[:70]
	counts := modelTable(api.Table{Counts: x.Counts})
	first := slices.Concat(head, counts, make([]byte, promised+32))
	rest := slices.Concat(head, make([]byte, 32), counts, make([]byte, promised))
	data := slices.Concat(head, modelTable(chain(1, 2)), counts, make([]byte, promised))
	for _, b := range [][]byte{first, rest, data} {
		for _, n := range []int{102, 134, 135, len(b) / 2, len(b) - 1} {
			if n < len(b) && n <= 91000 {
				expectParseError(t, b[:n], api.ErrShort)
			}
		}
		if len(b) <= 91000 {
			expectParseError(t, b, api.ErrForm)
			expectParseError(t, append(slices.Clone(b), 1)[:min(len(b)+1, 91000)], api.ErrForm)
		} else {
			expectParseError(t, b[:91000], api.ErrShort)
		}
	}
}

func TestParsePromises(t *testing.T) {
	for k := range 16 {
		for _, n := range []int{257, 258, 300, 511, 512, 1000, 65535} {
			var x api.Table
			x.Counts[k] = n
			expectPromise(t, x, n)
		}
	}
	expectPromise(t, with(nil, 1, 256), 257)
	expectPromise(t, with(nil, 65535, 1), 65536)
	expectPromise(t, with(nil, 65535, 25329), 90864)
	expectPromise(t, with(nil, 65535, 25331), 90866)
	expectPromise(t, with(nil, 65535, 65535), 131070)
	expectPromise(t, with(nil, slices.Repeat([]int{65535}, 16)...), 16*65535)
	expectPromise(t, with(nil, slices.Repeat([]int{4096}, 16)...), 65536)

	// As many as there may be, and one symbol fewer than promised.
	for _, x := range tables() {
		if len(x.Syms) == 0 {
			continue
		}
		f := plain()
		f.Tables.Rest = x
		b := modelPack(f)
		expectParse(t, b, f)
		expectParseError(t, b[:len(b)-1], api.ErrShort)
	}
}

// Each byte ahead of the tables, with each value.
func TestParseHead(t *testing.T) {
	for _, f := range []api.File{plain(), small()} {
		b := modelPack(f)
		for at := range 70 {
			seen := 0
			for x := range 256 {
				changed := slices.Clone(b)
				changed[at] = byte(x)
				if expectModel(t, changed) == api.OK {
					seen++
				}
			}
			right := 255
			if at < 6 {
				right = []int{1, 1, 64, 64, 2, 101}[at]
			}
			if seen != right {
				t.Errorf("the byte %d has %d right values, want %d", at, seen, right)
			}
		}
	}
}

func TestParseWrongHead(t *testing.T) {
	b := modelPack(small())
	for _, start := range []string{"ZM", "mz", "Mz", "mZ", "AB", "M\x00", "\x00Z", "\x00\x00", "ZZ", "MM", "MX"} {
		expectParseError(t, append([]byte(start), b[2:]...), api.ErrForm)
	}
	for _, w := range []struct {
		at int
		to []byte
	}{
		{2, []byte{0, 65, 66, 255}}, {3, []byte{0, 65, 66, 255}}, {4, []byte{0, 2, 4, 255}}, {5, []byte{101, 102, 255}},
	} {
		for _, to := range w.to {
			wrong := slices.Clone(b)
			wrong[w.at] = to
			expectParseError(t, wrong, api.ErrForm)
		}
	}
	for at := 6; at < 70; at++ {
		wrong := slices.Clone(b)
		wrong[at] = 0
		expectParseError(t, wrong, api.ErrForm)
	}
}

func TestParseWrongTables(t *testing.T) {
	for _, w := range packableWrongTables() {
		for _, other := range tables() {
			for _, data := range [][]byte{nil, {1}, bytes.Repeat([]byte{1}, 90000)} {
				f := small()
				f.Data = data
				f.Tables = api.Tables{First: w.Table, Rest: other}
				expectParseError(t, modelPack(f), api.ErrForm)
				f.Tables = api.Tables{First: other, Rest: w.Table}
				expectParseError(t, modelPack(f), api.ErrForm)
			}
		}
		for _, other := range packableWrongTables() {
			f := small()
			f.Tables = api.Tables{First: w.Table, Rest: other.Table}
			expectParseError(t, modelPack(f), api.ErrForm)
		}
	}
}

// Bytes with some of them changed, removed or repeated.
func TestParseChanged(t *testing.T) {
	r := samples.Sequence(37)
	seen := map[api.Errno]int{}
	for _, f := range files() {
		b := modelPack(f)
		for range 20 {
			i := r.Below(min(len(b), 1<<(1+r.Below(17))))
			changed := slices.Clone(b)
			changed[i] ^= 1 << r.Below(8)
			seen[expectModel(t, changed)]++
			changed[i] = byte(r.Below(256))
			seen[expectModel(t, changed)]++
			seen[expectModel(t, slices.Delete(slices.Clone(b), i, i+1))]++
			seen[expectModel(t, slices.Insert(slices.Clone(b), i, b[i]))]++
			seen[expectModel(t, b[:i])]++
		}
	}
	for _, e := range []api.Errno{api.OK, api.ErrShort, api.ErrForm} {
		if seen[e] == 0 {
			t.Errorf("the error %d has not occurred", e)
		}
	}
}

// P2: b remains as it is, and a file that Parse returns belongs to the caller, with the capacity of its slices.
func TestParseKeepsBytes(t *testing.T) {
	for _, f := range files() {
		b := samples.Roomy(modelPack(f), 77)
		whole := slices.Clone(b[:len(b)+3])
		g, _ := Parse(b)
		other, _ := Parse(b)
		Parse(b[:len(b)+1])
		Parse(b[:len(b)/2])
		if !bytes.Equal(b[:len(b)+3], whole) {
			t.Error("Parse has changed its argument")
		}
		samples.Overwrite(other.Tables.First.Syms, 1000)
		if !same(other, api.File{Wide: f.Wide, High: f.High, Parts: f.Parts, Quant: f.Quant, Tables: api.Tables{First: other.Tables.First, Rest: f.Tables.Rest}, Every: f.Every, Data: f.Data}) {
			t.Error("the symbols of First share memory with another slice")
		}
		samples.Overwrite(other.Tables.Rest.Syms, 1001)
		if len(other.Tables.First.Syms) > 0 && other.Tables.First.Syms[0] != 1000 || !bytes.Equal(other.Data, f.Data) {
			t.Error("the symbols of Rest share memory with another slice")
		}
		samples.Overwrite(other.Data, 9)
		if !same(g, f) {
			t.Error("two results share memory")
		}
		if !bytes.Equal(b[:len(b)+3], whole) {
			t.Error("a file shares memory with the bytes")
		}
		samples.Overwrite(b, 8)
		if !same(g, f) {
			t.Error("a file changes with the bytes")
		}
	}
}
