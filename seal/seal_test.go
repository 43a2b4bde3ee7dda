package seal_test

import (
	"bytes"
	libaes "crypto/aes"
	"crypto/cipher"
	"crypto/hkdf"
	"crypto/hmac"
	"crypto/sha256"
	"encoding/binary"
	"encoding/hex"
	"math"
	"slices"
	"testing"

	"coterie/api"
	"coterie/seal"
)

// lengths are those at the edges of a block, of a block that is summed up, and of the width of a text's length.
var lengths = []int{0, 1, 15, 16, 17, 31, 32, 33, 47, 48, 63, 64, 65, 1000, api.MaxText, api.MaxText + 1}

func filled(n int) []byte {
	b := make([]byte, n)
	for i := range b {
		b[i] = byte(i*7 + i>>8 + 1)
	}
	return b
}

func unhex(t *testing.T, text string) []byte {
	t.Helper()
	b, err := hex.DecodeString(text)
	if err != nil {
		t.Fatal(err)
	}
	return b
}

// expanded is what the library expands a key to.
func expanded(t *testing.T, k api.Key, label string, n int) []byte {
	t.Helper()
	b, err := hkdf.Expand(sha256.New, k[:], label, n)
	if err != nil {
		t.Fatal(err)
	}
	return b
}

// byLibrary is a text that the library seals: its counter mode, and its sum with a key.
func byLibrary(t *testing.T, k api.Key, plain []byte, beside ...[]byte) []byte {
	t.Helper()
	from := expanded(t, k, "stream", 28)
	c, err := libaes.NewCipher(from[:16])
	if err != nil {
		t.Fatal(err)
	}
	out := make([]byte, len(plain))
	cipher.NewCTR(c, append(from[16:28:28], 0, 0, 0, 0)).XORKeyStream(out, plain)
	h := hmac.New(sha256.New, expanded(t, k, "sum", 32))
	for _, x := range beside {
		h.Write(binary.BigEndian.AppendUint16(nil, uint16(len(x))))
		h.Write(x)
	}
	h.Write(binary.BigEndian.AppendUint32(nil, uint32(len(beside))))
	h.Write(out)
	return append(out, h.Sum(nil)[:16]...)
}

func sealed(t *testing.T, k api.Key, plain []byte, beside ...[]byte) []byte {
	t.Helper()
	b, e := seal.Seal(k, plain, beside...)
	if e != api.OK {
		t.Fatalf("%d bytes are not sealed: %d", len(plain), e)
	}
	return b
}

func refused(t *testing.T, what string, got []byte, e, want api.Errno) {
	t.Helper()
	if len(got) != 0 || e != want {
		t.Errorf("%s: got %d bytes, %d, instead of %d", what, len(got), e, want)
	}
}

func keys() []api.Key {
	return []api.Key{{}, {1}, {31: 1}, {1, 2, 3}, api.Key(bytes.Repeat([]byte{255}, 32))}
}

// besides are texts beside, none of which is like another one.
func besides() [][][]byte {
	return [][][]byte{
		nil,
		{nil},
		{nil, nil},
		{[]byte("a")},
		{[]byte("a"), nil},
		{nil, []byte("a")},
		{[]byte("b")},
		{[]byte("a"), []byte("b")},
		{[]byte("b"), []byte("a")},
		{[]byte("ab")},
		{{0}},
		{{0, 0}},
		{{0, 0, 0, 0}},
		{[]byte("a\x00\x01b")},
		{filled(100), filled(300), filled(64)},
		{filled(api.MaxText)},
		{filled(api.MaxText), filled(api.MaxText)},
		slices.Repeat([][]byte{nil}, 300),
		slices.Repeat([][]byte{nil}, 1<<16),
		slices.Repeat([][]byte{filled(api.MaxText)}, 20),
	}
}

// P7.1

// What another program's HMAC, HKDF and cipher come to.
func TestSealKnown(t *testing.T) {
	k := api.Key(unhex(t, "000102030405060708090a0b0c0d0e0f101112131415161718191a1b1c1d1e1f"))
	for i, x := range []struct {
		plain  string
		beside [][]byte
		want   string
	}{
		{"", nil, "606a9ef735d930841d5e680f8a290485"},
		{"hello", nil, "49fc85bb19b8f1edfb5d3cf0fd1d401a158367ab75"},
		{"hello", [][]byte{{1, 2}, nil}, "49fc85bb19e77c89b88b8fb3024aa4d81f3365b1db"},
		{"some text of more than one block", [][]byte{[]byte("beside")}, "52f684b256b534122c68fb75de80478d6afe2f5e95658bab39c4b524b866ecf83b75397544779b913a78eb484977d537"},
	} {
		got, e := seal.Seal(k, []byte(x.plain), x.beside...)
		if hex.EncodeToString(got) != x.want || e != api.OK {
			t.Errorf("%d: got %x, %d", i, got, e)
		}
	}
}

func TestSealLengths(t *testing.T) {
	for i, k := range keys() {
		for _, n := range lengths {
			plain := filled(n)
			for _, beside := range besides()[:5] {
				if got, e := seal.Seal(k, plain, beside...); !bytes.Equal(got, byLibrary(t, k, plain, beside...)) || e != api.OK {
					t.Errorf("key %d, %d bytes, %d beside: got %d bytes, %d", i, n, len(beside), len(got), e)
				}
			}
		}
	}
}

func TestSealBeside(t *testing.T) {
	k, plain := api.Key{1, 2, 3}, filled(40)
	for i, beside := range besides() {
		if got, e := seal.Seal(k, plain, beside...); !bytes.Equal(got, byLibrary(t, k, plain, beside...)) || e != api.OK {
			t.Errorf("%d: got %x, %d", i, got, e)
		}
	}
}

// As many bytes as may be, and one more.
func TestSealAtTheBound(t *testing.T) {
	k, b := api.Key{7}, filled(api.MaxBytes+1)
	for _, n := range []int{api.MaxBytes - 1, api.MaxBytes} {
		got, e := seal.Seal(k, b[:n], []byte("a"))
		if !bytes.Equal(got, byLibrary(t, k, b[:n], []byte("a"))) || e != api.OK {
			t.Errorf("%d: got %d bytes, %d", n, len(got), e)
		}
	}
	got, e := seal.Seal(k, b)
	refused(t, "one byte more", got, e, api.ErrLong)
	got, e = seal.Seal(k, make([]byte, 1<<22), nil)
	refused(t, "far more", got, e, api.ErrLong)
}

func TestSealBesideTooLong(t *testing.T) {
	k, long := api.Key{7}, filled(api.MaxText+1)
	for i, beside := range [][][]byte{
		{long},
		{nil, long},
		{long, nil},
		{[]byte("a"), long, []byte("b")},
		{long[1:], long[:api.MaxText], long},
		{make([]byte, 1<<21)},
	} {
		for _, n := range []int{0, 1, api.MaxBytes, api.MaxBytes + 1} {
			got, e := seal.Seal(k, make([]byte, n), beside...)
			if len(got) != 0 || e != api.ErrLong {
				t.Errorf("%d, %d bytes: got %d bytes, %d", i, n, len(got), e)
			}
		}
	}
}

func TestLong(t *testing.T) {
	for _, n := range []int{0, 1, 5, 16, 65535, 65536, api.MaxBytes - 1, api.MaxBytes} {
		if got, e := seal.Long(n); got != n+16 || e != api.OK {
			t.Errorf("%d: got %d, %d", n, got, e)
		}
	}
	for _, n := range []int{-1, -16, math.MinInt, api.MaxBytes + 1, api.MaxBytes + 16, 1 << 32, math.MaxInt} {
		if got, e := seal.Long(n); got != 0 || e != api.ErrArg {
			t.Errorf("%d: got %d, %d", n, got, e)
		}
	}
}

func TestLongIsHowLong(t *testing.T) {
	for _, n := range append([]int{api.MaxBytes}, lengths...) {
		if want, _ := seal.Long(n); len(sealed(t, api.Key{1}, filled(n), []byte("a"))) != want {
			t.Errorf("%d bytes do not have %d, sealed", n, want)
		}
	}
}

// P7.2

func TestOpen(t *testing.T) {
	for i, k := range keys() {
		for _, n := range lengths {
			plain := filled(n)
			for _, beside := range besides()[:5] {
				if got, e := seal.Open(k, byLibrary(t, k, plain, beside...), beside...); !bytes.Equal(got, plain) || e != api.OK {
					t.Errorf("key %d, %d bytes, %d beside: got %d bytes, %d", i, n, len(beside), len(got), e)
				}
			}
		}
	}
}

func TestOpenTooShort(t *testing.T) {
	k, long := api.Key{1}, make([]byte, api.MaxText+1)
	b := sealed(t, k, nil)
	for n := range 16 {
		got, e := seal.Open(k, b[:n])
		refused(t, "short", got, e, api.ErrShort)
		// What is too short is told ahead of what is too long.
		got, e = seal.Open(k, b[:n], long)
		refused(t, "short, and long beside", got, e, api.ErrShort)
	}
	got, e := seal.Open(k, nil)
	refused(t, "nothing", got, e, api.ErrShort)
	// Just enough bytes are a text of none.
	if got, e := seal.Open(k, b); len(got) != 0 || e != api.OK {
		t.Errorf("got %d bytes, %d", len(got), e)
	}
	got, e = seal.Open(k, make([]byte, 16))
	refused(t, "another sum of no bytes", got, e, api.ErrSum)
}

func TestOpenTooLong(t *testing.T) {
	k := api.Key{1}
	full := sealed(t, k, filled(api.MaxBytes))
	if got, e := seal.Open(k, full); !bytes.Equal(got, filled(api.MaxBytes)) || e != api.OK {
		t.Errorf("got %d bytes, %d", len(got), e)
	}
	got, e := seal.Open(k, append(slices.Clone(full), 0))
	refused(t, "one byte more", got, e, api.ErrLong)
	// Even if its sum is right.
	got, e = seal.Open(k, byLibrary(t, k, make([]byte, api.MaxBytes+1)))
	refused(t, "one byte more, sealed", got, e, api.ErrLong)
	got, e = seal.Open(k, make([]byte, 1<<22))
	refused(t, "far more", got, e, api.ErrLong)
	got, e = seal.Open(k, full[1:])
	refused(t, "one byte fewer", got, e, api.ErrSum)
}

func TestOpenBesideTooLong(t *testing.T) {
	k, long := api.Key{1}, filled(api.MaxText+1)
	for _, n := range []int{16, 17, 1000, api.MaxBytes + 16, api.MaxBytes + 17} {
		for i, beside := range [][][]byte{{long}, {nil, long}, {long, nil}, {long[1:], long}, {make([]byte, 1<<21)}} {
			// What is too long is told ahead of another sum.
			if got, e := seal.Open(k, make([]byte, n), beside...); len(got) != 0 || e != api.ErrLong {
				t.Errorf("%d bytes, %d: got %d bytes, %d", n, i, len(got), e)
			}
		}
	}
	full := [][]byte{long[1:], long[1:]}
	if got, e := seal.Open(k, sealed(t, k, []byte("text"), full...), full...); string(got) != "text" || e != api.OK {
		t.Errorf("got %q, %d", got, e)
	}
}

// Every bit of what is sealed counts, those of the text and those of the sum.
func TestOpenChanged(t *testing.T) {
	k := api.Key{1, 2, 3}
	for _, n := range []int{0, 1, 20} {
		b := sealed(t, k, filled(n), []byte("a"))
		for i := range b {
			for bit := range 8 {
				b[i] ^= 1 << bit
				got, e := seal.Open(k, b, []byte("a"))
				refused(t, "a bit changed", got, e, api.ErrSum)
				b[i] ^= 1 << bit
			}
		}
		for _, other := range [][]byte{append([]byte{0}, b...), append(slices.Clone(b), 0), append(slices.Clone(b), b...)} {
			got, e := seal.Open(k, other, []byte("a"))
			refused(t, "bytes more", got, e, api.ErrSum)
		}
		if n > 0 {
			got, e := seal.Open(k, b[1:], []byte("a"))
			refused(t, "the first byte is missing", got, e, api.ErrSum)
			got, e = seal.Open(k, b[:len(b)-1], []byte("a"))
			refused(t, "the last byte is missing", got, e, api.ErrSum)
		}
	}
}

func TestOpenByAnotherKey(t *testing.T) {
	k := api.Key{1, 2, 3}
	b := sealed(t, k, []byte("text"))
	for i := range k {
		for bit := range 8 {
			other := k
			other[i] ^= 1 << bit
			got, e := seal.Open(other, b)
			refused(t, "another key", got, e, api.ErrSum)
		}
	}
}

// Each text beside is one of its own: how long it is, in which place, and how many there are.
func TestOpenBesideOthers(t *testing.T) {
	k := api.Key{1, 2, 3}
	all := besides()[:14]
	for i, beside := range all {
		b := sealed(t, k, []byte("text"), beside...)
		for j, other := range all {
			got, e := seal.Open(k, b, other...)
			if i == j {
				if string(got) != "text" || e != api.OK {
					t.Errorf("%d: got %q, %d", i, got, e)
				}
			} else if len(got) != 0 || e != api.ErrSum {
				t.Errorf("%d beside %d: got %q, %d", i, j, got, e)
			}
		}
	}
}

// What is encrypted does not pass for a text beside, nor the other way round.
func TestOpenMoved(t *testing.T) {
	k := api.Key{5}
	plain := make([]byte, 6)
	b := sealed(t, k, plain)
	tag := b[6:]
	for n := range 6 {
		got, e := seal.Open(k, append(slices.Clone(b[n+1:6]), tag...), b[:n+1])
		refused(t, "moved beside", got, e, api.ErrSum)
	}
	with := sealed(t, k, plain, []byte("a"))
	got, e := seal.Open(k, append([]byte("\x00\x01a\x00\x00\x00\x01"), with...))
	refused(t, "moved into the text", got, e, api.ErrSum)
}

// P7.3

func TestSealedIsOpened(t *testing.T) {
	for _, k := range keys() {
		for i, beside := range besides() {
			for _, n := range []int{0, 1, 16, 40} {
				plain := filled(n)
				if got, e := seal.Open(k, sealed(t, k, plain, beside...), beside...); !bytes.Equal(got, plain) || e != api.OK {
					t.Errorf("%d, %d bytes: got %d bytes, %d", i, n, len(got), e)
				}
			}
		}
	}
}

func TestOpenedIsSealed(t *testing.T) {
	for _, k := range keys() {
		for _, n := range append([]int{api.MaxBytes}, lengths...) {
			b := byLibrary(t, k, filled(n), []byte("a"), nil)
			plain, e := seal.Open(k, b, []byte("a"), nil)
			if e != api.OK {
				t.Fatal(n, e)
			}
			if !bytes.Equal(sealed(t, k, plain, []byte("a"), nil), b) {
				t.Errorf("%d bytes: another text stands there", n)
			}
		}
	}
}

// Two texts with one key do not come to the same, and neither do two keys with one text.
func TestSealedApart(t *testing.T) {
	was := map[string]int{}
	at := 0
	for _, k := range keys() {
		for _, plain := range [][]byte{nil, {0}, {1}, {0, 0}, filled(20)} {
			for _, beside := range [][][]byte{nil, {nil}, {{0}}} {
				b := string(sealed(t, k, plain, beside...))
				if i, is := was[b]; is {
					t.Errorf("%d and %d are the same", i, at)
				}
				was[b] = at
				at++
			}
		}
	}
}

// R2: what is handed in is not changed, room behind it or none, and what is answered shares nothing with it.
func TestNothingIsShared(t *testing.T) {
	b := filled(1000)
	before := slices.Clone(b)
	beside := make([][]byte, 2, 5)
	beside[0], beside[1] = b[200:210], b[300:400]
	k := api.Key{1, 2, 3}
	out := sealed(t, k, b[:40], beside...)
	was := slices.Clone(out)
	room := append(make([]byte, 0, 200), out...)
	plain, e := seal.Open(k, room, beside...)
	if !bytes.Equal(plain, before[:40]) || e != api.OK {
		t.Fatalf("got %x, %d", plain, e)
	}
	if !bytes.Equal(b, before) || !bytes.Equal(room, was) || k != (api.Key{1, 2, 3}) || !bytes.Equal(beside[0], before[200:210]) || !bytes.Equal(beside[1], before[300:400]) {
		t.Fatal("what was handed in was changed")
	}
	for _, x := range beside[:cap(beside)][2:] {
		if x != nil {
			t.Error("the room behind the texts beside was written into")
		}
	}
	if behind := room[len(room):cap(room)]; !bytes.Equal(behind, make([]byte, len(behind))) {
		t.Error("the room behind what is sealed was written into")
	}
	clear(b)
	clear(room)
	if !bytes.Equal(out, was) || !bytes.Equal(plain, before[:40]) {
		t.Error("what was answered is another one now")
	}
	again := sealed(t, k, before[:40], before[200:210], before[300:400])
	clear(out)
	if !bytes.Equal(again, was) {
		t.Error("two answers share their bytes, or are not the same")
	}
}
