package frame

import (
	"slices"
	"testing"

	"mezzotint/api"
	"mezzotint/samples"
)

// roomy returns the picture in slices with unused capacity.
func roomy(p api.Picture) api.Picture {
	var parts [][]int
	for _, l := range p.Parts {
		parts = append(parts, samples.Roomy(l, -7))
	}
	p.Parts = samples.Roomy(parts, []int{-8, -9})
	return p
}

// snapshot returns copies of all planes with their unused capacity, those in the unused capacity of the list included.
func snapshot(p api.Picture) [][]int {
	var out [][]int
	for _, l := range p.Parts[:cap(p.Parts)] {
		out = append(out, slices.Clone(l[:cap(l)]))
	}
	return out
}

// roomyFile returns the file in slices with unused capacity.
func roomyFile(f api.File) api.File {
	f.Tables.First.Syms = samples.Roomy(f.Tables.First.Syms, 77)
	f.Tables.Rest.Syms = samples.Roomy(f.Tables.Rest.Syms, 78)
	f.Data = samples.Roomy(f.Data, 79)
	return f
}

// fileSnapshot returns a copy of all numbers of the slices of a file, with their unused capacity.
func fileSnapshot(f api.File) []int {
	out := slices.Clone(f.Tables.First.Syms[:cap(f.Tables.First.Syms)])
	out = append(out, f.Tables.Rest.Syms[:cap(f.Tables.Rest.Syms)]...)
	for _, x := range f.Data[:cap(f.Data)] {
		out = append(out, int(x))
	}
	return out
}

// overwritePicture sets all that the slices of a result have, unused capacity included.
func overwritePicture(p api.Picture) {
	for _, l := range p.Parts {
		samples.Overwrite(l, -11)
	}
	samples.Overwrite(p.Parts, []int{-12})
}

// overwriteFile does the same with a file.
func overwriteFile(f api.File) {
	samples.Overwrite(f.Tables.First.Syms, -13)
	samples.Overwrite(f.Tables.Rest.Syms, -14)
	samples.Overwrite(f.Data, 15)
}

func cloneFile(f api.File) api.File {
	f.Tables.First.Syms = slices.Clone(f.Tables.First.Syms)
	f.Tables.Rest.Syms = slices.Clone(f.Tables.Rest.Syms)
	f.Data = slices.Clone(f.Data)
	return f
}

func expectUnchanged(t *testing.T, p api.Picture, before [][]int) {
	t.Helper()
	if !slices.EqualFunc(snapshot(p), before, slices.Equal[[]int]) {
		t.Fatalf("%s has changed", brief(p))
	}
}

// memoryPictures returns pictures with unused capacity.
func memoryPictures() []api.Picture {
	r := samples.Sequence(18)
	return []api.Picture{
		roomy(uniform(1, 1, 131)),
		roomy(uniform(1, 1, 131, 7, 255)),
		roomy(noise(&r, 8, 8, 1, 0, 255)),
		roomy(noise(&r, 9, 17, 1, 0, 255)),
		roomy(noise(&r, 17, 9, 3, 0, 255)),
		roomy(noise(&r, 64, 64, 3, 100, 200)),
	}
}

func TestBlocksKeepPicture(t *testing.T) {
	for _, p := range memoryPictures() {
		before := snapshot(p)
		first, _ := Blocks(p, even(3))
		want := slices.Clone(first)
		second, _ := Blocks(p, even(3))
		Blocks(p, even(0))
		Blocks(api.Picture{Wide: p.Wide, High: p.High + 1, Parts: p.Parts}, even(3))
		expectUnchanged(t, p, before)
		samples.Overwrite(second, even(5000))
		if !slices.Equal(first, want) {
			t.Fatalf("%s: two results share memory", brief(p))
		}
		samples.Overwrite(first, even(6000))
		expectUnchanged(t, p, before)
		expectBlocks(t, p, even(3), want)
		third, _ := Blocks(p, even(3))
		if overwritePicture(p); !slices.Equal(third, want) {
			t.Fatalf("%s: the blocks change with the samples", brief(p))
		}
	}
}

func TestEncodeKeepsPicture(t *testing.T) {
	for _, every := range []int{0, 1, 2, 100} {
		for _, p := range memoryPictures() {
			before := snapshot(p)
			first, _ := Encode(p, even(3), every)
			want := cloneFile(first)
			second, _ := Encode(p, even(3), every)
			Encode(p, even(3), -1)
			Encode(p, even(0), every)
			expectUnchanged(t, p, before)
			overwriteFile(second)
			if !sameFile(first, want) {
				t.Fatalf("%s: two results share memory", brief(p))
			}
			samples.Overwrite(first.Tables.First.Syms, 5)
			if !slices.Equal(first.Tables.Rest.Syms, want.Tables.Rest.Syms) {
				t.Fatalf("%s: the symbols of both tables share memory", brief(p))
			}
			overwriteFile(first)
			expectUnchanged(t, p, before)
			expectFile(t, p, even(3), every, want)
			third, _ := Encode(p, even(3), every)
			if overwritePicture(p); !sameFile(third, want) {
				t.Fatalf("%s: the file changes with the samples", brief(p))
			}
		}
	}
}

func TestDecodeKeepsFile(t *testing.T) {
	for _, every := range []int{0, 1, 2, 100} {
		for _, p := range memoryPictures() {
			f := roomyFile(encoded(t, p, even(3), every))
			before := fileSnapshot(f)
			first, _ := Decode(f)
			want := clone(first)
			second, _ := Decode(f)
			longer, wrong := f, f
			longer.Data = f.Data[:len(f.Data)+1]
			wrong.Quant = api.Block{}
			Decode(longer)
			Decode(wrong)
			if !slices.Equal(fileSnapshot(f), before) {
				t.Fatalf("the file of %s has changed", brief(p))
			}
			overwritePicture(second)
			if !samePicture(first, want) {
				t.Fatalf("%s: two results share memory", brief(p))
			}
			for k, l := range first.Parts {
				samples.Overwrite(l, -3)
				for later := k + 1; later < len(first.Parts); later++ {
					if !slices.Equal(first.Parts[later], want.Parts[later]) {
						t.Fatalf("%s: the planes %d and %d share memory", brief(p), k, later)
					}
				}
			}
			overwritePicture(first)
			if !slices.Equal(fileSnapshot(f), before) {
				t.Fatalf("%s: the picture shares memory with the file", brief(p))
			}
			expectDecode(t, f, want)
			third, _ := Decode(f)
			if overwriteFile(f); !samePicture(third, want) {
				t.Fatalf("%s: the picture changes with the file", brief(p))
			}
		}
	}
}

// P2: a failed call leaves nothing behind that a later call could see.
func TestNoStateBetweenCalls(t *testing.T) {
	p := slope(20, 9, 3)
	f := encoded(t, p, even(2), 2)
	blocks := modelBlocks(p, even(2))
	want := modelDecode(f, blocks)
	for range 2 {
		cut := f
		cut.Data = f.Data[:len(f.Data)-1]
		Decode(cut)
		expectBlocksError(t, p, even(0), api.ErrArg)
		expectEncodeError(t, p, even(2), 101, api.ErrArg)
		expectBlocks(t, p, even(2), blocks)
		expectFile(t, p, even(2), 2, f)
		expectDecode(t, f, want)
	}
}
