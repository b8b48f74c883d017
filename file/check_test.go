package file

import (
	"bytes"
	"slices"
	"testing"

	"mezzotint/api"
	"mezzotint/samples"
)

// expectRange tests that set makes a file of f just with the numbers from low to high.
func expectRange(t *testing.T, f api.File, low, high int, set func(f *api.File, n int)) {
	t.Helper()
	for n := low - 3; n <= high+3; n++ {
		g := f
		if set(&g, n); n < low || n > high {
			expectWrong(t, g, api.ErrArg)
		} else {
			expectFile(t, g, modelPack(g))
		}
	}
	for _, n := range extremes {
		g := f
		set(&g, n)
		expectWrong(t, g, api.ErrArg)
	}
}

func TestCheckSides(t *testing.T) {
	expectRange(t, plain(), 1, 64, func(f *api.File, n int) { f.Wide = n })
	expectRange(t, plain(), 1, 64, func(f *api.File, n int) { f.High = n })
	expectRange(t, plain(), 1, 64, func(f *api.File, n int) { f.Wide, f.High = n, n })
}

func TestCheckEvery(t *testing.T) {
	expectRange(t, plain(), 0, 100, func(f *api.File, n int) { f.Every = n })
}

func TestCheckParts(t *testing.T) {
	f := plain()
	for _, n := range append([]int{0, 2, 4, 5, 6, 7, 100, 255}, extremes...) {
		f.Parts = n
		expectWrong(t, f, api.ErrArg)
	}
	for _, n := range []int{1, 3} {
		f.Parts = n
		expectFile(t, f, modelPack(f))
	}
}

func TestCheckQuant(t *testing.T) {
	for i := range 64 {
		for _, n := range append([]int{0}, extremes...) {
			f := plain()
			f.Quant[i] = n
			expectWrong(t, f, api.ErrArg)
		}
		for _, n := range []int{1, 2, 128, 254, 255} {
			f := plain()
			f.Quant[i] = n
			expectFile(t, f, modelPack(f))
		}
	}
	for _, n := range []int{0, 256, -1} {
		f := plain()
		f.Quant = all(n)
		expectWrong(t, f, api.ErrArg)
	}
	expectWrong(t, api.File{}, api.ErrArg)
	expectWrong(t, api.File{Wide: 3, High: 2, Parts: 1}, api.ErrArg)
}

func TestCheckTables(t *testing.T) {
	for _, w := range wrongTables {
		for _, other := range tables() {
			for _, f := range []api.File{plain(), greatest()} {
				f.Tables = api.Tables{First: w.Table, Rest: other}
				expectWrong(t, f, w.Error)
				f.Tables = api.Tables{First: other, Rest: w.Table}
				expectWrong(t, f, w.Error)
			}
		}
		// First comes before Rest.
		for _, other := range wrongTables {
			f := plain()
			f.Tables = api.Tables{First: w.Table, Rest: other.Table}
			expectWrong(t, f, w.Error)
		}
	}
	for _, x := range tables() {
		f := plain()
		f.Tables = api.Tables{First: x, Rest: x}
		expectFile(t, f, modelPack(f))
	}
}

func TestCheckData(t *testing.T) {
	f := greatest()
	for _, n := range []int{0, 1, 2, 70, 134, 89999, 90000} {
		f.Data = bytes.Repeat([]byte{7}, n)
		expectFile(t, f, modelPack(f))
	}
	for _, n := range []int{90001, 90002, 90366, 91000, 91001, 180000} {
		f.Data = bytes.Repeat([]byte{7}, n)
		expectWrong(t, f, api.ErrLarge)
		g := plain()
		g.Data = f.Data
		expectWrong(t, g, api.ErrLarge)
	}
	// Any bytes are data, also those that stuff.Split would refuse.
	for _, b := range [][]byte{{255}, {255, 255}, {255, 208}, {0}, []byte("MZ"), modelPack(plain())} {
		f.Data = b
		expectFile(t, f, modelPack(f))
	}
}

// flaw makes a file wrong in one of the ways that Check examines in this order: numbers, Quant, First, Rest, Data.
type flaw struct {
	stage int
	set   func(f *api.File)
	want  api.Errno
}

func flaws() []flaw {
	out := []flaw{
		{0, func(f *api.File) { f.Wide = 0 }, api.ErrArg},
		{0, func(f *api.File) { f.Wide = 65 }, api.ErrArg},
		{0, func(f *api.File) { f.High = 65 }, api.ErrArg},
		{0, func(f *api.File) { f.Parts = 2 }, api.ErrArg},
		{0, func(f *api.File) { f.Every = -1 }, api.ErrArg},
		{0, func(f *api.File) { f.Every = 101 }, api.ErrArg},
		{1, func(f *api.File) { f.Quant[0] = 0 }, api.ErrArg},
		{1, func(f *api.File) { f.Quant[31] = 256 }, api.ErrArg},
		{1, func(f *api.File) { f.Quant[63] = -1 }, api.ErrArg},
		{4, func(f *api.File) { f.Data = make([]byte, 90001) }, api.ErrLarge},
		{4, func(f *api.File) { f.Data = make([]byte, 91001) }, api.ErrLarge},
	}
	for _, w := range wrongTables {
		out = append(out,
			flaw{2, func(f *api.File) { f.Tables.First = w.Table }, w.Error},
			flaw{3, func(f *api.File) { f.Tables.Rest = w.Table }, w.Error})
	}
	return out
}

// Of two flaws the one that Check examines first decides.
func TestCheckOrder(t *testing.T) {
	for _, a := range flaws() {
		for _, b := range flaws() {
			f, want := plain(), a.want
			if b.stage < a.stage {
				want = b.want
			}
			if a.stage == b.stage && a.want != b.want {
				continue
			}
			a.set(&f)
			b.set(&f)
			expectWrong(t, f, want)
		}
	}
}

// Of all flaws together the first one decides.
func TestCheckAllFlaws(t *testing.T) {
	var wants [5]api.Errno
	for from := range wants {
		f := plain()
		for _, x := range flaws() {
			if x.stage >= from {
				x.set(&f)
				wants[x.stage] = x.want
			}
		}
		expectWrong(t, f, wants[from])
	}
}

// P2: neither a file nor the unused capacity of its slices changes.
func TestFileUnchanged(t *testing.T) {
	for _, f := range files() {
		f.Tables.First.Syms, f.Tables.Rest.Syms = samples.Roomy(f.Tables.First.Syms, 300), samples.Roomy(f.Tables.Rest.Syms, -5)
		f.Data = samples.Roomy(f.Data, 77)
		whole := func() ([]int, []int, []byte) {
			return f.Tables.First.Syms[:len(f.Tables.First.Syms)+3], f.Tables.Rest.Syms[:len(f.Tables.Rest.Syms)+3], f.Data[:len(f.Data)+3]
		}
		first, rest, data := whole()
		first, rest, data = slices.Clone(first), slices.Clone(rest), slices.Clone(data)
		expectFile(t, f, modelPack(f))
		wrong := f
		wrong.Tables.Rest.Counts[15]--
		Check(wrong)
		Pack(wrong)
		if a, b, c := whole(); !slices.Equal(a, first) || !slices.Equal(b, rest) || !bytes.Equal(c, data) {
			t.Errorf("Check or Pack has changed %v", brief(f))
		}
		want := modelPack(f)
		b, _ := Pack(f)
		other, _ := Pack(f)
		samples.Overwrite(other, 7)
		if !bytes.Equal(b, want) {
			t.Error("two results share memory")
		}
		samples.Overwrite(b, 8)
		if a, b, c := whole(); !slices.Equal(a, first) || !slices.Equal(b, rest) || !bytes.Equal(c, data) {
			t.Error("the bytes of Pack share memory with the file")
		}
		b, _ = Pack(f)
		f.Data = samples.Roomy(f.Data, 0)
		samples.Overwrite(f.Data, 9)
		if !bytes.Equal(b, want) {
			t.Error("the bytes of Pack change with the file")
		}
	}
}

// P1: no combination of extreme numbers makes a function panic.
func TestNoPanic(t *testing.T) {
	for _, p := range append([]int{0, 1, 2, 3, 255}, extremes...) {
		for _, q := range append([]int{0, 1, 16, 256}, extremes...) {
			for _, x := range []api.Table{with(nil, p, q), with([]int{p}, 1), with([]int{p, q}, 1, 1), with([]int{0, 1}, p, q), with([]int{p}, q)} {
				for _, f := range []api.File{
					{Wide: p, High: q, Parts: 1, Quant: all(1)},
					{Wide: 1, High: 1, Parts: p, Quant: all(1), Every: q},
					{Wide: 1, High: 1, Parts: 1, Quant: all(p)},
					{Wide: 1, High: 1, Parts: 1, Quant: all(1), Tables: api.Tables{First: x}},
					{Wide: 1, High: 1, Parts: 1, Quant: all(1), Tables: api.Tables{Rest: x}, Data: []byte{byte(p)}},
				} {
					if _, e := Pack(f); e != Check(f) {
						t.Errorf("Check and Pack of %v disagree", f)
					}
				}
			}
		}
	}
}
