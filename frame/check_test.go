package frame

import (
	"testing"

	"mezzotint/api"
	"mezzotint/samples"
)

func expectRight(t *testing.T, p api.Picture) {
	t.Helper()
	if e := Check(p); e != api.OK {
		t.Errorf("Check of %s: got the error %d", brief(p), e)
	}
}

func TestCheckSizes(t *testing.T) {
	for wide := 1; wide <= 64; wide++ {
		for high := 1; high <= 64; high++ {
			expectRight(t, uniform(wide, high, 0))
			expectRight(t, uniform(wide, high, 255, 0, 128))
		}
	}
}

func TestCheckSamples(t *testing.T) {
	for n := range 256 {
		expectRight(t, uniform(3, 2, n))
		expectRight(t, uniform(2, 3, n, 255-n, 255))
		for part := range 3 {
			for i := range 6 {
				expectRight(t, withSample(uniform(3, 2, 7, 8, 9), part, i, n))
			}
		}
	}
	for _, p := range pictures() {
		expectRight(t, p)
	}
}

func TestCheckWrongSizes(t *testing.T) {
	for _, wrong := range wrongSides {
		for _, p := range []api.Picture{uniform(8, 8, 7), uniform(1, 1, 0), uniform(1, 1, 7, 8, 9), uniform(64, 64, 1), uniform(1, 64, 0)} {
			wide, high := p.Wide, p.High
			p.Wide = wrong
			expectWrong(t, p, api.ErrArg)
			p.High = wrong
			expectWrong(t, p, api.ErrArg)
			p.Wide = wide
			expectWrong(t, p, api.ErrArg)
			p.Wide, p.High = high, wrong
			expectWrong(t, p, api.ErrArg)
		}
		for _, other := range wrongSides {
			expectWrong(t, api.Picture{Wide: wrong, High: other, Parts: [][]int{{1}}}, api.ErrArg)
		}
	}
}

// As many samples as the product of a wrong width and height says.
func TestCheckWrongSizesOfRightLength(t *testing.T) {
	for _, s := range [][2]int{{65, 1}, {1, 65}, {65, 64}, {64, 65}, {128, 2}, {0, 0}, {0, 1}, {1, 0}, {0, 64}, {64, 0}, {0, 65}, {-1, -1}, {-8, -8}, {-64, -1}, {0, -5}, {1 << 32, 1 << 32}, {1 << 62, 4}, {4, 1 << 62}} {
		expectWrong(t, api.Picture{Wide: s[0], High: s[1], Parts: [][]int{all(s[0]*s[1], 9)}}, api.ErrArg)
		l := all(s[0]*s[1], 9)
		expectWrong(t, api.Picture{Wide: s[0], High: s[1], Parts: [][]int{l, l, l}}, api.ErrArg)
	}
}

// The wrong size comes before parts of a wrong length, which would be ErrForm.
func TestCheckWrongSizeFirst(t *testing.T) {
	for _, parts := range [][][]int{nil, {}, {nil}, {{}}, {{1, 2}}, {nil, nil, nil}, {{1}, {1, 2}, {1}}, {{-1}}, {{256, 1, 2}}, {nil, nil}, {{1}, {2}, {3}, {4}}} {
		for _, s := range [][2]int{{0, 8}, {8, 0}, {65, 1}, {1, 65}, {-1, 1}, {1, -1}, {0, 0}} {
			expectWrong(t, api.Picture{Wide: s[0], High: s[1], Parts: parts}, api.ErrArg)
		}
	}
	expectWrong(t, api.Picture{}, api.ErrArg)
}

// The wrong number of parts comes before their length, and before their samples.
func TestCheckWrongNumberOfParts(t *testing.T) {
	for _, s := range someSizes {
		for _, many := range []int{0, 2, 4, 5, 6, 9} {
			p := uniform(s[0], s[1], make([]int, many)...)
			expectWrong(t, p, api.ErrArg)
			for k := range p.Parts {
				expectWrong(t, withLength(p, k, 0), api.ErrArg)
				expectWrong(t, withLength(p, k, s[0]*s[1]+1), api.ErrArg)
				expectWrong(t, withSample(p, k, 0, -1), api.ErrArg)
			}
			expectWrong(t, api.Picture{Wide: s[0], High: s[1], Parts: make([][]int, many)}, api.ErrArg)
		}
	}
	expectWrong(t, api.Picture{Wide: 1, High: 1, Parts: [][]int{}}, api.ErrArg)
}

func TestCheckWrongLengths(t *testing.T) {
	for _, s := range someSizes {
		right := s[0] * s[1]
		for _, p := range []api.Picture{uniform(s[0], s[1], 3), uniform(s[0], s[1], 3, 4, 5)} {
			for k := range p.Parts {
				for _, n := range []int{0, 1, right - 1, right + 1, right - s[0], right + s[0], right + s[1], 2 * right, 3 * right} {
					if n != right {
						expectWrong(t, withLength(p, k, n), api.ErrForm)
					}
				}
				q := clone(p)
				q.Parts[k] = nil
				expectWrong(t, q, api.ErrForm)
			}
		}
	}
	expectWrong(t, api.Picture{Wide: 1, High: 1, Parts: [][]int{nil, nil, nil}}, api.ErrForm)
	expectWrong(t, api.Picture{Wide: 1, High: 1, Parts: [][]int{{}}}, api.ErrForm)
}

func TestCheckWrongSamples(t *testing.T) {
	for _, s := range [][2]int{{1, 1}, {2, 1}, {8, 8}, {9, 10}} {
		for _, p := range []api.Picture{uniform(s[0], s[1], 3), uniform(s[0], s[1], 0, 255, 128)} {
			for k := range p.Parts {
				for _, i := range []int{0, s[0] * s[1] / 2, s[0]*s[1] - 1} {
					for _, n := range wrongSamples {
						expectWrong(t, withSample(p, k, i, n), api.ErrArg)
					}
				}
			}
		}
	}
	p := uniform(64, 64, 0, 0, 0)
	for k := range p.Parts {
		for _, i := range []int{0, 2080, 4095} {
			expectWrong(t, withSample(p, k, i, -1), api.ErrArg)
			expectWrong(t, withSample(p, k, i, 256), api.ErrArg)
		}
	}
	for k := range 3 {
		for i := range 15 {
			expectWrong(t, withSample(uniform(5, 3, 255, 255, 255), k, i, 256), api.ErrArg)
			expectWrong(t, withSample(uniform(3, 5, 0, 0, 0), k, i, -1), api.ErrArg)
		}
	}
}

// The parts are examined in order, and the length of each one before its samples.
func TestCheckOrder(t *testing.T) {
	p := uniform(4, 3, 100, 150, 200)
	for k := range 3 {
		for _, length := range []int{1, 11, 13, 24} {
			short := withLength(p, k, length)
			for other := range 3 {
				for _, n := range []int{-1, 256} {
					want := api.ErrForm
					if other < k {
						want = api.ErrArg
					}
					for _, i := range []int{0, len(short.Parts[other]) / 2, len(short.Parts[other]) - 1} {
						expectWrong(t, withSample(short, other, i, n), want)
					}
				}
			}
		}
	}
	one := uniform(4, 3, 100)
	for _, length := range []int{1, 11, 13} {
		expectWrong(t, withSample(withLength(one, 0, length), 0, 0, -1), api.ErrForm)
		expectWrong(t, withSample(withLength(one, 0, length), 0, length-1, 256), api.ErrForm)
	}
}

// P2: no sample changes, nor does the unused capacity.
func TestCheckKeepsPicture(t *testing.T) {
	r := samples.Sequence(17)
	for _, many := range []int{1, 3} {
		p := roomy(noise(&r, 9, 10, many, 0, 255))
		before := snapshot(p)
		for range 2 {
			Check(p)
			Check(api.Picture{Wide: 9, High: 10, Parts: p.Parts[:many+1]})
			Check(api.Picture{Wide: 10, High: 10, Parts: p.Parts})
			expectUnchanged(t, p, before)
		}
	}
}
