// Package wire is layer 1: numbers and texts as bytes, each written in one way (see shared/doc/01-wire.md).
package wire

import (
	"bytes"

	"coterie/api"
)

// maxWidth is the greatest width of a number, textWidth that of a text's length.
const (
	maxWidth  = 8
	textWidth = 2
)

// Num writes numbers of a width behind b, the highest byte first.
func Num(b []byte, width int, n ...uint64) ([]byte, api.Errno) {
	if !isWidth(width) {
		return nil, api.ErrArg
	}
	for _, x := range n {
		if !fits(x, width) {
			return nil, api.ErrArg
		}
	}
	out := grown(b, width*len(n))
	for _, x := range n {
		out = putNum(out, width, x)
	}
	return out, api.OK
}

// Text writes texts behind b, each behind how many bytes it has.
func Text(b []byte, t ...[]byte) ([]byte, api.Errno) {
	more := 0
	for _, x := range t {
		if len(x) > api.MaxText {
			return nil, api.ErrLong
		}
		more += textWidth + len(x)
	}
	out := grown(b, more)
	for _, x := range t {
		out = putNum(out, textWidth, uint64(len(x)))
		out = append(out, x...)
	}
	return out, api.OK
}

// TakeNum reads the number of a width that stands at a place, and tells the place behind it.
func TakeNum(b []byte, at, width int) (uint64, int, api.Errno) {
	if !isPlace(b, at) || !isWidth(width) {
		return 0, 0, api.ErrArg
	}
	if len(b)-at < width {
		return 0, 0, api.ErrShort
	}
	n := uint64(0)
	for _, x := range b[at : at+width] {
		n = n<<8 | uint64(x)
	}
	return n, at + width, api.OK
}

// TakeText reads the text that stands at a place, and tells the place behind it.
func TakeText(b []byte, at int) ([]byte, int, api.Errno) {
	long, from, e := TakeNum(b, at, textWidth)
	if e != api.OK {
		return nil, 0, e
	}
	if uint64(len(b)-from) < long {
		return nil, 0, api.ErrShort
	}
	to := from + int(long)
	return bytes.Clone(b[from:to]), to, api.OK
}

// Texts reads so many texts that stand at a place, and tells the place behind them.
func Texts(b []byte, at, many int) ([][]byte, int, api.Errno) {
	if !isPlace(b, at) || many < 0 {
		return nil, 0, api.ErrArg
	}
	// No room is made ahead: many may be far more than b has.
	var out [][]byte
	for range many {
		t, next, e := TakeText(b, at)
		if e != api.OK {
			return nil, 0, e
		}
		out, at = append(out, t), next
	}
	return out, at, api.OK
}

// End tells whether a place is b's end.
func End(b []byte, at int) api.Errno {
	if !isPlace(b, at) {
		return api.ErrArg
	}
	if at != len(b) {
		return api.ErrForm
	}
	return api.OK
}

func isWidth(width int) bool { return width >= 1 && width <= maxWidth }

func isPlace(b []byte, at int) bool { return at >= 0 && at <= len(b) }

// fits leans on a shift by 64 leaving nothing: every number fits the greatest width.
func fits(n uint64, width int) bool { return n>>(8*width) == 0 }

// grown is a copy of b, since what is answered shares nothing with it, that has room for more bytes.
func grown(b []byte, more int) []byte {
	return append(make([]byte, 0, len(b)+more), b...)
}

func putNum(b []byte, width int, n uint64) []byte {
	for i := width - 1; i >= 0; i-- {
		b = append(b, byte(n>>(8*i)))
	}
	return b
}
