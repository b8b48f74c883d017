package file

import (
	"bytes"
	"math"
	"slices"
	"strings"
	"testing"

	"mezzotint/api"
)

const (
	ones     = "0101010101010101 0101010101010101 0101010101010101 0101010101010101 0101010101010101 0101010101010101 0101010101010101 0101010101010101"
	noCounts = "0000000000000000 0000000000000000 0000000000000000 0000000000000000"
)

// A file without symbols and data has 134 bytes: 2, 4, 64, 32 and 32.
func TestPackExample(t *testing.T) {
	b, e := Pack(plain())
	if len(b) != 134 || e != api.OK {
		t.Errorf("got %d bytes and the error %d", len(b), e)
	}
	expectFile(t, plain(), unhex("4d5a 03 02 01 00"+ones+noCounts+noCounts))
}

func TestPackWrittenOut(t *testing.T) {
	f := api.File{Wide: 64, High: 1, Parts: 3, Every: 100, Data: []byte{9, 255, 0, 8}}
	for i := range f.Quant {
		f.Quant[i] = i + 1
	}
	f.Tables.First = with([]int{255, 0, 16}, 1, 0, 1, 0, 0, 0, 0, 0, 0, 0, 0, 0, 0, 0, 0, 1)
	f.Tables.Rest = with([]int{17, 255, 0, 128}, 0, 1, 3)
	expectFile(t, f, unhex(`
		4d5a 40 01 03 64
		01 02 09 11 0a 03 04 0b 12 19 21 1a 13 0c 05 06 0d 14 1b 22 29 31 2a 23 1c 15 0e 07 08 0f 16 1d
		24 2b 32 39 3a 33 2c 25 1e 17 10 18 1f 26 2d 34 3b 3c 35 2e 27 20 28 2f 36 3d 3e 37 30 38 3f 40
		0001 0000 0001 0000 0000 0000 0000 0000 0000 0000 0000 0000 0000 0000 0000 0001
		ff 00 10
		0000 0001 0003 0000 0000 0000 0000 0000 0000 0000 0000 0000 0000 0000 0000 0000
		11 ff 00 80
		09 ff 00 08`))
}

func TestPackNumbers(t *testing.T) {
	f := api.File{Wide: 1, High: 64, Parts: 1, Every: 1, Quant: all(255)}
	expectFile(t, f, unhex("4d5a 01 40 01 01"+strings.Repeat("ff", 64)+noCounts+noCounts))
	f = api.File{Wide: 10, High: 20, Parts: 3, Every: 30, Quant: all(1)}
	f.Quant[63], f.Quant[8], f.Quant[1] = 200, 8, 2
	expectFile(t, f, unhex("4d5a 0a 14 03 1e"+"01 02 08"+strings.Repeat("01", 60)+"c8"+noCounts+noCounts))
}

// A count of 256 needs both of its bytes.
func TestPackManySymbols(t *testing.T) {
	var syms []byte
	for s := range 256 {
		syms = append(syms, byte(s))
	}
	head := unhex("4d5a 03 02 01 00" + ones)
	none := unhex(noCounts)
	f := plain()
	f.Tables.First = flat(9)
	nine := unhex("0000000000000000 0000000000000000 0100000000000000 0000000000000000")
	expectFile(t, f, slices.Concat(head, nine, syms, none))
	f.Tables.Rest = flat(16)
	sixteen := unhex("0000000000000000 0000000000000000 0000000000000000 0000000000000100")
	expectFile(t, f, slices.Concat(head, nine, syms, sixteen, syms))
	f.Data = []byte{1, 2, 3}
	expectFile(t, f, slices.Concat(head, nine, syms, sixteen, syms, f.Data))

	// 255 codewords of nine bits behind one of a bit, and the symbols from above
	f = plain()
	slices.Reverse(syms)
	f.Tables.Rest = api.Table{Counts: [16]int{0: 1, 8: 255}}
	for _, s := range syms {
		f.Tables.Rest.Syms = append(f.Tables.Rest.Syms, int(s))
	}
	both := unhex("0001000000000000 0000000000000000 00ff000000000000 0000000000000000")
	expectFile(t, f, slices.Concat(head, none, both, syms))
}

// Each count has its own two bytes.
func TestPackEachCount(t *testing.T) {
	for k := range 16 {
		most := min(1<<(k+1)-1, 256)
		for _, n := range []int{1, most/2 + 1, most} {
			f := plain()
			x := flat(9)
			x.Counts = [16]int{}
			x.Counts[k], x.Syms = n, x.Syms[:n]
			f.Tables.First = x
			b := unhex("4d5a 03 02 01 00" + ones + noCounts + strings.Repeat("00", n) + noCounts)
			b[70+2*k], b[71+2*k] = byte(n/256), byte(n)
			for s := range n {
				b[102+s] = byte(s)
			}
			expectFile(t, f, b)
			f.Tables.First, f.Tables.Rest = f.Tables.Rest, f.Tables.First
			expectFile(t, f, slices.Concat(b[:70], unhex(noCounts), b[70:102+n]))
		}
	}
}

func TestPackData(t *testing.T) {
	head := unhex("4d5a 03 02 01 00" + ones + noCounts + noCounts)
	f := plain()
	f.Data = []byte{}
	expectFile(t, f, head)
	for x := range 256 {
		f.Data = []byte{byte(x), 0, byte(255 - x)}
		expectFile(t, f, append(slices.Clone(head), byte(x), 0, byte(255-x)))
	}
	f.Data = bytes.Repeat([]byte{1, 255, 0}, 30000)
	expectFile(t, f, append(slices.Clone(head), f.Data...))
}

func TestPackGreatest(t *testing.T) {
	b, e := Pack(greatest())
	if len(b) != 90646 || e != api.OK {
		t.Errorf("got %d bytes and the error %d", len(b), e)
	}
}

func TestPackAgainstModel(t *testing.T) {
	for _, f := range files() {
		expectFile(t, f, modelPack(f))
	}
}

// P2: a failed call leaves nothing behind that a later call could see.
func TestNoStateBetweenCalls(t *testing.T) {
	for range 2 {
		f := plain()
		f.Wide = math.MinInt
		expectWrong(t, f, api.ErrArg)
		expectParseError(t, modelPack(greatest())[:500], api.ErrShort)
		expectParseError(t, modelPack(f), api.ErrForm)
		expectFile(t, plain(), unhex("4d5a 03 02 01 00"+ones+noCounts+noCounts))
		expectFile(t, greatest(), modelPack(greatest()))
	}
}
