package tint

import "testing"

func TestToExample(t *testing.T) {
	expect(t, To, [3]int{255, 255, 255}, [3]int{255, 128, 128})
}

// The corners of the cube of colors; the comments have the sums divided by 65536.
func TestToCorners(t *testing.T) {
	for _, c := range [][2][3]int{
		{{0, 0, 0}, {0, 128, 128}},
		{{255, 0, 0}, {76, 85, 255}},     // 76.24, 84.97, 255.5
		{{0, 255, 0}, {150, 44, 21}},     // 149.69, 43.53, 21.24
		{{0, 0, 255}, {29, 255, 107}},    // 29.07, 255.5, 107.26
		{{0, 255, 255}, {179, 171, 1}},   // 178.76, 171.03, 0.5
		{{255, 0, 255}, {105, 212, 235}}, // 105.31, 212.47, 234.76
		{{255, 255, 0}, {226, 1, 149}},   // 225.93, 0.5, 148.74
		{{255, 255, 255}, {255, 128, 128}},
	} {
		expect(t, To, c[0], c[1])
	}
}

func TestToWrittenOut(t *testing.T) {
	for _, c := range [][2][3]int{
		{{1, 0, 0}, {0, 128, 129}},        // 0.30, 127.83, 128.5
		{{0, 1, 0}, {1, 128, 128}},        // 0.59, 127.67, 127.58
		{{0, 0, 1}, {0, 129, 128}},        // 0.11, 128.5, 127.92
		{{2, 0, 0}, {1, 128, 129}},        // 0.60, 127.66, 129
		{{100, 150, 200}, {141, 161, 99}}, // 140.75, 161.44, 98.93
		{{200, 100, 50}, {124, 86, 182}},  // 124.20, 86.13, 182.07
		{{10, 200, 30}, {124, 75, 47}},    // 123.81, 75.06, 46.82
	} {
		expect(t, To, c[0], c[1])
	}
}

// Sums that are a half above an integer.
func TestToHalves(t *testing.T) {
	for _, c := range [][2][3]int{
		{{0, 52, 184}, {52, 203, 91}},     // 51.5
		{{29, 81, 213}, {81, 203, 91}},    // 80.5
		{{200, 27, 218}, {101, 194, 199}}, // 100.5
		{{0, 0, 3}, {0, 130, 128}},        // u 129.5
		{{1, 1, 0}, {1, 128, 128}},        // u 127.5
		{{3, 3, 0}, {3, 127, 128}},        // u 126.5
		{{9, 9, 2}, {8, 125, 129}},        // u 124.5
		{{3, 0, 0}, {1, 127, 130}},        // v 129.5
		{{0, 1, 1}, {1, 128, 128}},        // v 127.5
		{{0, 3, 3}, {2, 129, 127}},        // v 126.5
	} {
		expect(t, To, c[0], c[1])
	}
}

// Both chrominance values are 255.5 for one color each, and 255 for the two that are nearest to it.
func TestToClamped(t *testing.T) {
	for _, c := range [][2][3]int{
		{{0, 0, 255}, {29, 255, 107}},
		{{1, 0, 255}, {29, 255, 108}}, // 255.33
		{{0, 0, 254}, {29, 255, 107}}, // 255
		{{0, 0, 253}, {29, 255, 107}}, // 254.5
		{{0, 0, 252}, {29, 254, 108}}, // 254
		{{255, 0, 0}, {76, 85, 255}},
		{{255, 0, 1}, {76, 85, 255}}, // 255.42
		{{254, 0, 0}, {76, 85, 255}}, // 255
		{{253, 0, 0}, {76, 85, 255}}, // 254.5
		{{252, 0, 0}, {75, 85, 254}}, // 254
	} {
		expect(t, To, c[0], c[1])
	}
}

// A gray has its own luminance, and no chrominance.
func TestToGrays(t *testing.T) {
	for n := range 256 {
		expect(t, To, [3]int{n, n, n}, [3]int{n, 128, 128})
	}
}

func TestToLattice(t *testing.T) {
	expectLattice(t, To, sumsTo)
}

func TestToAllColors(t *testing.T) {
	expectAll(t, To, sumsTo)
}

func TestToErrors(t *testing.T) {
	expectErrors(t, To)
}
