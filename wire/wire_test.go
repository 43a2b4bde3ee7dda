package wire_test

import (
	"bytes"
	"math"
	"slices"
	"testing"

	"coterie/api"
	"coterie/wire"
)

const top = math.MaxInt

// lowest is the lowest number that needs more than width bytes.
func lowest(width int) uint64 { return 1 << (8 * width) }

func filled(n int) []byte {
	b := make([]byte, n)
	for i := range b {
		b[i] = byte(i*7 + i>>8)
	}
	return b
}

// P1.1

func TestNumWrites(t *testing.T) {
	for i, x := range []struct {
		b     []byte
		width int
		n     []uint64
		want  []byte
	}{
		{nil, 2, []uint64{300}, []byte{1, 44}},
		{[]byte{9}, 2, []uint64{300, 65535, 0}, []byte{9, 1, 44, 255, 255, 0, 0}},
		{[]byte{9, 8}, 1, []uint64{0, 255}, []byte{9, 8, 0, 255}},
		{nil, 3, []uint64{0x010203}, []byte{1, 2, 3}},
		{nil, 4, []uint64{1}, []byte{0, 0, 0, 1}},
		{nil, 8, []uint64{0x0102030405060708}, []byte{1, 2, 3, 4, 5, 6, 7, 8}},
		{[]byte{5}, 8, []uint64{math.MaxUint64}, []byte{5, 255, 255, 255, 255, 255, 255, 255, 255}},
		{[]byte{5}, 1, nil, []byte{5}},
		{nil, 8, nil, nil},
	} {
		if got, e := wire.Num(x.b, x.width, x.n...); !bytes.Equal(got, x.want) || e != api.OK {
			t.Errorf("%d: got %v, %d", i, got, e)
		}
	}
}

func TestNumWidths(t *testing.T) {
	for _, width := range []int{0, 9, -1, 10, 64, top, math.MinInt} {
		for _, n := range [][]uint64{nil, {0}, {1, 2}} {
			if got, e := wire.Num([]byte{1}, width, n...); got != nil || e != api.ErrArg {
				t.Errorf("width %d, %v: got %v, %d", width, n, got, e)
			}
		}
	}
}

func TestNumFits(t *testing.T) {
	for width := 1; width <= 7; width++ {
		want := append([]byte{3}, bytes.Repeat([]byte{255}, width)...)
		if got, e := wire.Num([]byte{3}, width, lowest(width)-1); !bytes.Equal(got, want) || e != api.OK {
			t.Errorf("width %d, just fits: got %v, %d", width, got, e)
		}
		for _, n := range [][]uint64{{lowest(width)}, {math.MaxUint64}, {0, lowest(width)}, {lowest(width), 0}} {
			if got, e := wire.Num([]byte{3}, width, n...); got != nil || e != api.ErrArg {
				t.Errorf("width %d, %v: got %v, %d", width, n, got, e)
			}
		}
	}
}

func TestTextWrites(t *testing.T) {
	for i, x := range []struct {
		b    []byte
		t    [][]byte
		want []byte
	}{
		{nil, [][]byte{{7, 8}}, []byte{0, 2, 7, 8}},
		{[]byte{9}, [][]byte{{7, 8}, nil, {5}}, []byte{9, 0, 2, 7, 8, 0, 0, 0, 1, 5}},
		{[]byte{9}, nil, []byte{9}},
		{nil, [][]byte{{}}, []byte{0, 0}},
		{nil, nil, nil},
	} {
		if got, e := wire.Text(x.b, x.t...); !bytes.Equal(got, x.want) || e != api.OK {
			t.Errorf("%d: got %v, %d", i, got, e)
		}
	}
}

func TestTextLengths(t *testing.T) {
	for _, n := range []int{255, 256, 65534, 65535} {
		x := filled(n)
		want := append([]byte{9, byte(n >> 8), byte(n)}, x...)
		if got, e := wire.Text([]byte{9}, x); !bytes.Equal(got, want) || e != api.OK {
			t.Errorf("%d bytes: got %d bytes, %d", n, len(got), e)
		}
	}
	for _, n := range []int{65536, 65537, 1 << 20} {
		for i, x := range [][][]byte{{filled(n)}, {{1}, filled(n)}, {filled(n), {1}}} {
			if got, e := wire.Text([]byte{9}, x...); got != nil || e != api.ErrLong {
				t.Errorf("%d bytes, %d: got %d bytes, %d", n, i, len(got), e)
			}
		}
	}
}

// The bound is one of each text, not of all together, nor of what stands ahead.
func TestTextManyLong(t *testing.T) {
	x := filled(api.MaxText)
	b, e := wire.Text(filled(1<<20), x, x, x)
	if len(b) != 1<<20+3*(2+api.MaxText) || e != api.OK {
		t.Errorf("got %d bytes, %d", len(b), e)
	}
}

// R2: what is written shares nothing with what was handed in, room behind it or none.
func TestWritesShareNothing(t *testing.T) {
	whole := []byte{1, 2, 3, 4, 5, 6, 7, 8, 9, 10, 11, 12}
	before := slices.Clone(whole)
	b, x := whole[:2], whole[8:10]
	for i, write := range []func() ([]byte, api.Errno){
		func() ([]byte, api.Errno) { return wire.Num(b, 2, 300) },
		func() ([]byte, api.Errno) { return wire.Num(b, 2) },
		func() ([]byte, api.Errno) { return wire.Text(b, x) },
		func() ([]byte, api.Errno) { return wire.Text(b) },
	} {
		got, e := write()
		if e != api.OK || !bytes.Equal(whole, before) {
			t.Fatalf("%d: %d, what was handed in is now %v", i, e, whole)
		}
		kept := slices.Clone(got)
		for k := range whole {
			whole[k] = 99
		}
		if !bytes.Equal(got, kept) {
			t.Errorf("%d: what was answered is now %v", i, got)
		}
		copy(whole, before)
		got = got[:cap(got)]
		for k := range got {
			got[k] = 77
		}
		if !bytes.Equal(whole, before) {
			t.Errorf("%d: what was handed in is now %v", i, whole)
		}
	}
	n := []uint64{1, 2}
	if _, e := wire.Num(nil, 1, n...); e != api.OK || !slices.Equal(n, []uint64{1, 2}) {
		t.Errorf("numbers are now %v, %d", n, e)
	}
}

// Two texts written behind the same b do not write into each other.
func TestWrittenTwice(t *testing.T) {
	b, _ := wire.Num(nil, 1, 1, 2, 3, 4, 5)
	b = b[:1]
	one, _ := wire.Num(b, 1, 6)
	two, _ := wire.Num(b, 1, 7)
	three, _ := wire.Text(b, []byte{8})
	if !bytes.Equal(one, []byte{1, 6}) || !bytes.Equal(two, []byte{1, 7}) || !bytes.Equal(three, []byte{1, 0, 1, 8}) {
		t.Errorf("got %v, %v, %v", one, two, three)
	}
}

// P1.2

func TestTakeNum(t *testing.T) {
	b := []byte{1, 44, 255, 0, 5, 6, 7, 8, 9}
	for i, x := range []struct {
		at, width int
		n         uint64
		next      int
		e         api.Errno
	}{
		{0, 1, 1, 1, api.OK},
		{0, 2, 300, 2, api.OK},
		{2, 1, 255, 3, api.OK},
		{3, 1, 0, 4, api.OK},
		{3, 2, 5, 5, api.OK},
		{0, 8, 0x012cff0005060708, 8, api.OK},
		{1, 8, 0x2cff000506070809, 9, api.OK},
		{8, 1, 9, 9, api.OK},
		{2, 7, 0xff000506070809, 9, api.OK},
		{2, 8, 0, 0, api.ErrShort},
		{8, 2, 0, 0, api.ErrShort},
		{9, 1, 0, 0, api.ErrShort},
		{9, 8, 0, 0, api.ErrShort},
		{10, 1, 0, 0, api.ErrArg},
		{-1, 1, 0, 0, api.ErrArg},
		{top, 8, 0, 0, api.ErrArg},
		{math.MinInt, 8, 0, 0, api.ErrArg},
		{0, 0, 0, 0, api.ErrArg},
		{0, 9, 0, 0, api.ErrArg},
		{0, -1, 0, 0, api.ErrArg},
		{0, top, 0, 0, api.ErrArg},
		{0, math.MinInt, 0, 0, api.ErrArg},
		{9, 0, 0, 0, api.ErrArg},
		{9, 9, 0, 0, api.ErrArg},
	} {
		if n, next, e := wire.TakeNum(b, x.at, x.width); n != x.n || next != x.next || e != x.e {
			t.Errorf("%d: got %d, %d, %d", i, n, next, e)
		}
	}
	if n, next, e := wire.TakeNum(nil, 0, 1); n != 0 || next != 0 || e != api.ErrShort {
		t.Errorf("of nothing: got %d, %d, %d", n, next, e)
	}
}

func TestTakeText(t *testing.T) {
	b := []byte{0, 2, 7, 8, 0, 0, 1, 0}
	for i, x := range []struct {
		at   int
		want []byte
		next int
		e    api.Errno
	}{
		{0, []byte{7, 8}, 4, api.OK},
		{4, nil, 6, api.OK},
		{1, nil, 0, api.ErrShort},
		{5, []byte{0}, 8, api.OK},
		{6, nil, 0, api.ErrShort},
		{7, nil, 0, api.ErrShort},
		{8, nil, 0, api.ErrShort},
		{9, nil, 0, api.ErrArg},
		{-1, nil, 0, api.ErrArg},
		{top, nil, 0, api.ErrArg},
		{math.MinInt, nil, 0, api.ErrArg},
	} {
		got, next, e := wire.TakeText(b, x.at)
		if !bytes.Equal(got, x.want) || next != x.next || e != x.e {
			t.Errorf("%d: got %v, %d, %d", i, got, next, e)
		}
	}
}

// One byte too few is too few; what stands further behind is not told.
func TestTakeTextLengths(t *testing.T) {
	for _, n := range []int{0, 1, 255, 256, 65535} {
		x := filled(n)
		b := append([]byte{9, byte(n >> 8), byte(n)}, x...)
		for _, more := range [][]byte{nil, {1}, {1, 2, 3}} {
			got, next, e := wire.TakeText(slices.Concat(b, more), 1)
			if !bytes.Equal(got, x) || next != 3+n || e != api.OK {
				t.Errorf("%d bytes: got %d bytes, %d, %d", n, len(got), next, e)
			}
		}
		if got, next, e := wire.TakeText(b[:len(b)-1], 1); got != nil || next != 0 || e != api.ErrShort {
			t.Errorf("%d bytes, one too few: got %d bytes, %d, %d", n, len(got), next, e)
		}
	}
}

// P1.3

func TestTexts(t *testing.T) {
	b := []byte{0, 2, 7, 8, 0, 0, 0, 1, 5}
	all := [][]byte{{7, 8}, {}, {5}}
	for i, x := range []struct {
		at, many int
		want     [][]byte
		next     int
		e        api.Errno
	}{
		{0, 0, nil, 0, api.OK},
		{0, 1, all[:1], 4, api.OK},
		{0, 2, all[:2], 6, api.OK},
		{0, 3, all, 9, api.OK},
		{4, 2, all[1:], 9, api.OK},
		{6, 1, all[2:], 9, api.OK},
		{5, 0, nil, 5, api.OK},
		{9, 0, nil, 9, api.OK},
		{0, 4, nil, 0, api.ErrShort},
		{0, top, nil, 0, api.ErrShort},
		{9, 1, nil, 0, api.ErrShort},
		{1, 1, nil, 0, api.ErrShort},
		{8, 1, nil, 0, api.ErrShort},
		{0, -1, nil, 0, api.ErrArg},
		{0, math.MinInt, nil, 0, api.ErrArg},
		{9, -1, nil, 0, api.ErrArg},
		{10, 0, nil, 0, api.ErrArg},
		{10, 1, nil, 0, api.ErrArg},
		{-1, 0, nil, 0, api.ErrArg},
		{-1, 1, nil, 0, api.ErrArg},
		{top, 1, nil, 0, api.ErrArg},
		{math.MinInt, 1, nil, 0, api.ErrArg},
	} {
		got, next, e := wire.Texts(b, x.at, x.many)
		if !slices.EqualFunc(got, x.want, bytes.Equal) || next != x.next || e != x.e {
			t.Errorf("%d: got %v, %d, %d", i, got, next, e)
		}
		if e != api.OK && got != nil {
			t.Errorf("%d: got a list beside an error: %v", i, got)
		}
	}
}

func TestEnd(t *testing.T) {
	b := []byte{1, 2, 3}
	for i, x := range []struct {
		b  []byte
		at int
		e  api.Errno
	}{
		{b, 3, api.OK},
		{b, 0, api.ErrForm},
		{b, 2, api.ErrForm},
		{b, 4, api.ErrArg},
		{b, -1, api.ErrArg},
		{b, top, api.ErrArg},
		{b, math.MinInt, api.ErrArg},
		{b[:0], 0, api.OK},
		{nil, 0, api.OK},
		{nil, 1, api.ErrArg},
		{nil, -1, api.ErrArg},
	} {
		if e := wire.End(x.b, x.at); e != x.e {
			t.Errorf("%d: got %d", i, e)
		}
	}
}

// R2: texts that were read share nothing with b, nor with each other.
func TestReadsShareNothing(t *testing.T) {
	b, _ := wire.Text(nil, []byte{7, 8}, []byte{5}, []byte{6})
	before := slices.Clone(b)
	one, _, _ := wire.TakeText(b, 0)
	list, _, _ := wire.Texts(b, 0, 3)
	clear(b)
	if !bytes.Equal(one, []byte{7, 8}) || !slices.EqualFunc(list, [][]byte{{7, 8}, {5}, {6}}, bytes.Equal) {
		t.Errorf("what was read is now %v, %v", one, list)
	}
	copy(b, before)
	one = append(one[:0], 1, 1, 1, 1)
	list[0] = append(list[0], 2, 2, 2, 2)
	list[1] = append(list[1], 3, 3, 3, 3)
	if !bytes.Equal(b, before) || !bytes.Equal(list[1], []byte{5, 3, 3, 3, 3}) || !bytes.Equal(list[2], []byte{6}) {
		t.Errorf("after writes into %v: %v, %v", one, b, list)
	}
}

// P1.4

func TestWrittenNumbersAreRead(t *testing.T) {
	for width := 1; width <= 8; width++ {
		highest := uint64(math.MaxUint64) >> (64 - 8*width)
		n := []uint64{0, 1, 200, highest / 3, highest - 1, highest}
		b, e := wire.Num([]byte{4, 4}, width, n...)
		if e != api.OK {
			t.Fatalf("width %d: %d", width, e)
		}
		at := 2
		for i, x := range n {
			got, next, e := wire.TakeNum(b, at, width)
			if got != x || next != at+width || e != api.OK {
				t.Errorf("width %d, %d: got %d, %d, %d", width, i, got, next, e)
			}
			at = next
		}
		if e := wire.End(b, at); e != api.OK {
			t.Errorf("width %d: end is %d", width, e)
		}
	}
}

func TestReadNumbersAreWritten(t *testing.T) {
	b := filled(300)
	for width := 1; width <= 8; width++ {
		for at := 0; at+width <= len(b); at++ {
			n, next, e := wire.TakeNum(b, at, width)
			if e != api.OK {
				t.Fatalf("width %d at %d: %d", width, at, e)
			}
			if got, e := wire.Num(b[:at], width, n); !bytes.Equal(got, b[:next]) || e != api.OK {
				t.Errorf("width %d at %d: got %v, %d", width, at, got[at:], e)
			}
		}
	}
}

func TestWrittenTextsAreRead(t *testing.T) {
	texts := [][]byte{filled(3), nil, filled(256), filled(api.MaxText), {0}, {0, 0}, {}}
	b, e := wire.Text([]byte{1, 2, 3}, texts...)
	if e != api.OK {
		t.Fatal(e)
	}
	got, at, e := wire.Texts(b, 3, len(texts))
	if !slices.EqualFunc(got, texts, bytes.Equal) || e != api.OK || wire.End(b, at) != api.OK {
		t.Errorf("got %d texts, %d, %d", len(got), at, e)
	}
	for long := 3; long < len(b); long += 1 + long/2 {
		if got, at, e := wire.Texts(b[:long], 3, len(texts)); got != nil || at != 0 || e != api.ErrShort {
			t.Errorf("of %d bytes: got %d texts, %d, %d", long, len(got), at, e)
		}
	}
	if e := wire.End(append(b, 0), at); e != api.ErrForm {
		t.Errorf("a byte is left over: %d", e)
	}
}

func TestReadTextsAreWritten(t *testing.T) {
	b := []byte{0, 1, 0, 0, 2, 0, 0, 0, 0, 0, 3, 1, 0, 1, 9, 9, 0, 0}
	for at := 0; at <= len(b); at++ {
		for many := 0; ; many++ {
			got, next, e := wire.Texts(b, at, many)
			if e != api.OK {
				break
			}
			if again, e := wire.Text(b[:at], got...); !bytes.Equal(again, b[:next]) || e != api.OK {
				t.Errorf("%d texts at %d: got %v, %d", many, at, again, e)
			}
		}
	}
}
