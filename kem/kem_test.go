package kem_test

import (
	"bytes"
	libaes "crypto/aes"
	"crypto/cipher"
	"crypto/ecdh"
	"crypto/hkdf"
	"crypto/hmac"
	"crypto/sha256"
	"encoding/binary"
	"encoding/hex"
	"slices"
	"testing"

	"coterie/api"
	"coterie/curve"
	"coterie/kem"
	"coterie/seal"
)

func filled(n int) []byte {
	b := make([]byte, n)
	for i := range b {
		b[i] = byte(i*7 + i>>8 + 1)
	}
	return b
}

func unhex(t *testing.T, text string) []byte {
	t.Helper()
	b, err := hex.DecodeString(text)
	if err != nil {
		t.Fatal(err)
	}
	return b
}

func key(t *testing.T, text string) api.Key {
	t.Helper()
	return api.Key(unhex(t, text))
}

// must is what the library answers where it can't refuse.
func must[T any](x T, err error) T {
	if err != nil {
		panic(err)
	}
	return x
}

// expanded is what the library expands a key to.
func expanded(k []byte, info string, n int) []byte {
	return must(hkdf.Expand(sha256.New, k, info, n))
}

// derived is a key that the library derives: each text behind how long it is.
func derived(k []byte, texts ...[]byte) api.Key {
	var info []byte
	for _, x := range append([][]byte{[]byte("coterie")}, texts...) {
		info = append(binary.BigEndian.AppendUint16(info, uint16(len(x))), x...)
	}
	return api.Key(expanded(k, string(info), 32))
}

// own is a key of the library's curve.
func own(secret api.Key) *ecdh.PrivateKey { return must(ecdh.X25519().NewPrivateKey(secret[:])) }

func pointOf(secret api.Key) api.Key { return api.Key(own(secret).PublicKey().Bytes()) }

// product is what the library multiplies; it refuses what comes to 0.
func product(secret, point api.Key) ([]byte, error) {
	return own(secret).ECDH(must(ecdh.X25519().NewPublicKey(point[:])))
}

func pairByLibrary(seed api.Key) (api.Key, api.Key) {
	secret := derived(seed[:], []byte("pair"))
	return secret, pointOf(secret)
}

func sharedByLibrary(secret, other, mine, theirs api.Key) api.Key {
	k := must(hkdf.Extract(sha256.New, must(product(secret, other)), nil))
	return derived(k, []byte("key"), mine[:], theirs[:])
}

// sealedByLibrary is a text that the library seals: its counter mode, and its sum with a key.
func sealedByLibrary(k api.Key, plain []byte, beside ...[]byte) []byte {
	from := expanded(k[:], "stream", 28)
	c := must(libaes.NewCipher(from[:16]))
	out := make([]byte, len(plain))
	cipher.NewCTR(c, append(from[16:28:28], 0, 0, 0, 0)).XORKeyStream(out, plain)
	h := hmac.New(sha256.New, expanded(k[:], "sum", 32))
	for _, x := range beside {
		h.Write(binary.BigEndian.AppendUint16(nil, uint16(len(x))))
		h.Write(x)
	}
	h.Write(binary.BigEndian.AppendUint32(nil, uint32(len(beside))))
	h.Write(out)
	return append(out, h.Sum(nil)[:16]...)
}

func boxedByLibrary(point, seed api.Key, plain []byte, beside ...[]byte) []byte {
	secret, mine := pairByLibrary(derived(seed[:], []byte("box")))
	k := sharedByLibrary(secret, point, mine, point)
	return append(mine[:], sealedByLibrary(k, plain, beside...)...)
}

// seeds are secrets, seeds, or points, whatever they are taken for.
func seeds() []api.Key {
	return []api.Key{{}, {1}, {9}, {31: 1}, {31: 128}, {1, 2, 3}, api.Key(filled(32)), api.Key(bytes.Repeat([]byte{255}, 32))}
}

// points are those of seeds, and others: on the curve's twist, and written in another way.
func points() []api.Key {
	all := []api.Key{{2}, {9}, {9, 31: 128}, api.Key(filled(32)), api.Key(bytes.Repeat([]byte{255}, 32))}
	for _, s := range seeds()[:3] {
		_, p := pairByLibrary(s)
		all = append(all, p)
	}
	return all
}

// small are the points of which every secret makes 0, written in all ways.
func small(t *testing.T) []api.Key {
	t.Helper()
	full := bytes.Repeat([]byte{255}, 30)
	near := func(first byte) api.Key { return api.Key(slices.Concat([]byte{first}, full, []byte{127})) }
	all := []api.Key{
		{}, {1}, near(236), near(237), near(238),
		key(t, "e0eb7a7c3b41b8ae1656e3faf19fc46ada098deb9c32b1fd866205165f49b800"),
		key(t, "5f9c95bca3508c24b1d0b1559c83ef5b04445cc4581c8e86d8224eddd09f1157"),
	}
	for _, p := range all {
		p[31] |= 128
		all = append(all, p)
	}
	return all
}

// besides are texts beside, none of which is like another one.
func besides() [][][]byte {
	return [][][]byte{
		nil,
		{nil},
		{nil, nil},
		{[]byte("a")},
		{[]byte("a"), nil},
		{nil, []byte("a")},
		{[]byte("a"), []byte("b")},
		{[]byte("ab")},
		{{0, 0, 0, 0}},
		{filled(api.MaxText), filled(100)},
		slices.Repeat([][]byte{nil}, 300),
	}
}

func boxed(t *testing.T, point, seed api.Key, plain []byte, beside ...[]byte) []byte {
	t.Helper()
	b, e := kem.Box(point, seed, plain, beside...)
	if e != api.OK {
		t.Fatalf("%d bytes are not boxed: %d", len(plain), e)
	}
	return b
}

func refused(t *testing.T, what string, got []byte, e, want api.Errno) {
	t.Helper()
	if len(got) != 0 || e != want {
		t.Errorf("%s: got %d bytes, %d, instead of %d", what, len(got), e, want)
	}
}

// What another program's HMAC, HKDF, curve and cipher come to, by this seed, and by the one whose bytes are all 255.
const (
	rising      = "000102030405060708090a0b0c0d0e0f101112131415161718191a1b1c1d1e1f"
	risingKey   = "82f2091c258a16fcf0e43f43b615bb8b9090ad4ca4bcdecd46782b5bf80b6fd5"
	risingPoint = "da22a6a1646b9f32012a35465e2b2e3862ed06435efb4e2813bdb7c6dba81b70"
	lastPoint   = "f348234597338a6cd635605c9b3bca03d8fb7316817c9c60a44fbc339ee9055a"
)

// P8.1

func TestPairKnown(t *testing.T) {
	for i, x := range []struct{ seed, secret, point string }{
		{
			"0000000000000000000000000000000000000000000000000000000000000000",
			"a3317bfcb6a1220c1c3076494cac7958d626f98f9c31a860959e5827c2e4220d",
			"90fce69e0acce24a8329d3406ecf8b0c6702b80f0911a9eb1859b872f47d9518",
		},
		{rising, risingKey, risingPoint},
		{
			"ffffffffffffffffffffffffffffffffffffffffffffffffffffffffffffffff",
			"4b54c20aeee11dee2b59eee85d6626e827f938902235b750cffc6b38bd4f6063",
			lastPoint,
		},
	} {
		secret, point := kem.Pair(key(t, x.seed))
		if hex.EncodeToString(secret[:]) != x.secret || hex.EncodeToString(point[:]) != x.point {
			t.Errorf("%d: got %x, %x", i, secret, point)
		}
	}
}

func TestPair(t *testing.T) {
	was := map[api.Key]int{}
	for i, s := range seeds() {
		secret, point := kem.Pair(s)
		if k, p := pairByLibrary(s); secret != k || point != p {
			t.Errorf("%d: got %x, %x", i, secret, point)
		}
		if curve.Base(secret) != point {
			t.Errorf("%d: the point is another secret's", i)
		}
		for _, k := range []api.Key{s, secret, point} {
			if at, is := was[k]; is {
				t.Errorf("%d and %d have the same", at, i)
			}
			was[k] = i
		}
	}
}

func TestSharedKnown(t *testing.T) {
	secret, mine, theirs := key(t, risingKey), key(t, risingPoint), key(t, lastPoint)
	for i, x := range []struct {
		mine, theirs api.Key
		want         string
	}{
		{mine, theirs, "d677ab2fc77012bbbd5bdc78279a970660da1af97edd58e8d862a2a1a5040f1a"},
		{theirs, mine, "abdfd02dccde1fd736d57aa4e901e15181f074e21bc598a1e1a06d085f01bde1"},
	} {
		got, e := kem.Shared(secret, theirs, x.mine, x.theirs)
		if hex.EncodeToString(got[:]) != x.want || e != api.OK {
			t.Errorf("%d: got %x, %d", i, got, e)
		}
	}
}

func TestShared(t *testing.T) {
	for i, secret := range seeds() {
		for j, other := range points() {
			for _, x := range [][2]api.Key{{}, {other, pointOf(secret)}, {pointOf(secret), other}, {api.Key{31: 255}, other}} {
				want := sharedByLibrary(secret, other, x[0], x[1])
				if got, e := kem.Shared(secret, other, x[0], x[1]); got != want || e != api.OK {
					t.Errorf("%d, %d: got %x, %d", i, j, got, e)
				}
			}
		}
	}
}

// Two have one key, if they tell the same points in the same order.
func TestSharedByBoth(t *testing.T) {
	for _, s := range seeds() {
		a, p := kem.Pair(s)
		b, q := kem.Pair(api.Key{42})
		one, e := kem.Shared(a, q, p, q)
		if two, f := kem.Shared(b, p, p, q); one != two || e != api.OK || f != api.OK {
			t.Errorf("got %x, %d and %x, %d", one, e, two, f)
		}
		if two, f := kem.Shared(b, p, q, p); one == two || f != api.OK {
			t.Errorf("in another order: got %x, %d", two, f)
		}
	}
}

// Each bit of the points that are told counts: even the highest one, which plays no part in the product.
func TestSharedPointsCount(t *testing.T) {
	secret, other := kem.Pair(api.Key{1})
	was := map[api.Key]bool{}
	try := func(mine, theirs api.Key) {
		k, e := kem.Shared(secret, other, mine, theirs)
		if e != api.OK || was[k] {
			t.Errorf("%x, %x: got %x, %d", mine, theirs, k, e)
		}
		was[k] = true
	}
	try(api.Key{}, api.Key{})
	for i := range 256 {
		var p api.Key
		p[i/8] = 1 << (i % 8)
		try(p, api.Key{})
		try(api.Key{}, p)
	}
}

func TestSharedOfNothing(t *testing.T) {
	for i, point := range small(t) {
		for j, secret := range append(seeds(), derived(filled(32), []byte("pair"))) {
			if _, err := product(secret, point); err == nil {
				t.Fatalf("%d is not small", i)
			}
			for _, mine := range []api.Key{{}, {9}, point} {
				if got, e := kem.Shared(secret, point, mine, api.Key{7}); got != (api.Key{}) || e != api.ErrArg {
					t.Errorf("%d, %d: got %x, %d", i, j, got, e)
				}
			}
		}
	}
	// It is the product that counts, and not the points that are told.
	if got, e := kem.Shared(api.Key{}, api.Key{9}, api.Key{}, api.Key{1}); got != sharedByLibrary(api.Key{}, api.Key{9}, api.Key{}, api.Key{1}) || e != api.OK {
		t.Errorf("got %x, %d", got, e)
	}
}

// A product of which only a byte is 0, whichever one, is no nothing.
func TestSharedOfAZeroByte(t *testing.T) {
	_, other := pairByLibrary(api.Key{1})
	met := map[int]bool{}
	for n := uint64(0); len(met) < 32 && n < 20000; n++ {
		var secret api.Key
		binary.LittleEndian.PutUint64(secret[8:], n)
		both := must(product(secret, other))
		at := bytes.IndexByte(both, 0)
		if at < 0 || met[at] {
			continue
		}
		met[at] = true
		if got, e := kem.Shared(secret, other, other, other); got != sharedByLibrary(secret, other, other, other) || e != api.OK {
			t.Errorf("byte %d: got %x, %d", at, got, e)
		}
	}
	if len(met) < 32 {
		t.Errorf("only %d bytes were met", len(met))
	}
}

// P8.2

func TestBoxKnown(t *testing.T) {
	const ahead = "35fc52bda760024f08f76c5c6328ea32515589b35ef907987c26cc45d88ccf39"
	for i, x := range []struct {
		plain  string
		beside [][]byte
		want   string
	}{
		{"", nil, "70d179362357f8f613912e8355dd9ff4"},
		{"hello", nil, "8efc512ad30148376534d547279c0c557ab42b86a6"},
		{"hello", [][]byte{{1, 2}, nil}, "8efc512ad35d89bb36175fea463d3d05fbc6b9917e"},
		{"some text of more than one block", [][]byte{[]byte("beside")}, "95f650239c5e1a597a5e70060639154bbd988d41bf8f2749e623edc7f68cd20146572e3698092b198bca145b3d1925f7"},
	} {
		got, e := kem.Box(key(t, risingPoint), api.Key(bytes.Repeat([]byte{255}, 32)), []byte(x.plain), x.beside...)
		if hex.EncodeToString(got) != ahead+x.want || e != api.OK {
			t.Errorf("%d: got %x, %d", i, got, e)
		}
	}
}

func TestBox(t *testing.T) {
	for i, point := range points() {
		for j, seed := range seeds() {
			for _, n := range []int{0, 1, 5, 40} {
				beside := besides()[(i+j+n)%8]
				got, e := kem.Box(point, seed, filled(n), beside...)
				if !bytes.Equal(got, boxedByLibrary(point, seed, filled(n), beside...)) || len(got) != n+48 || e != api.OK {
					t.Errorf("%d, %d, %d bytes: got %d bytes, %d", i, j, n, len(got), e)
				}
			}
		}
	}
}

func TestBoxBeside(t *testing.T) {
	_, point := kem.Pair(api.Key{1})
	for i, beside := range besides() {
		got, e := kem.Box(point, api.Key{2}, filled(40), beside...)
		if !bytes.Equal(got, boxedByLibrary(point, api.Key{2}, filled(40), beside...)) || e != api.OK {
			t.Errorf("%d: got %x, %d", i, got, e)
		}
	}
}

// What stands ahead hangs on the seed alone, and is not the seed's own pair's point: a seed makes a pair, and a box, and neither is the other one.
func TestBoxAhead(t *testing.T) {
	for _, seed := range seeds() {
		_, plain := kem.Pair(seed)
		var was []byte
		for _, point := range points() {
			b := boxed(t, point, seed, []byte("text"))
			if bytes.Equal(b[:32], plain[:]) || was != nil && !bytes.Equal(b[:32], was) {
				t.Errorf("got %x", b[:32])
			}
			was = b[:32]
		}
	}
}

func TestBoxForNothing(t *testing.T) {
	for i, point := range small(t) {
		for _, seed := range seeds() {
			got, e := kem.Box(point, seed, []byte("text"), []byte("a"))
			refused(t, "a small point", got, e, api.ErrArg)
		}
		// It is told ahead of what is too long.
		got, e := kem.Box(point, api.Key{byte(i)}, make([]byte, api.MaxBytes+1))
		refused(t, "a small point, and a long text", got, e, api.ErrArg)
		got, e = kem.Box(point, api.Key{byte(i)}, nil, make([]byte, api.MaxText+1))
		refused(t, "a small point, and long beside", got, e, api.ErrArg)
	}
}

func TestBoxTooLong(t *testing.T) {
	_, point := kem.Pair(api.Key{1})
	b := filled(api.MaxBytes + 1)
	for _, n := range []int{api.MaxBytes - 1, api.MaxBytes} {
		got, e := kem.Box(point, api.Key{2}, b[:n], []byte("a"))
		if !bytes.Equal(got, boxedByLibrary(point, api.Key{2}, b[:n], []byte("a"))) || e != api.OK {
			t.Errorf("%d: got %d bytes, %d", n, len(got), e)
		}
	}
	got, e := kem.Box(point, api.Key{2}, b)
	refused(t, "one byte more", got, e, api.ErrLong)
	got, e = kem.Box(point, api.Key{2}, make([]byte, 1<<22), nil)
	refused(t, "far more", got, e, api.ErrLong)
	long := b[:api.MaxText+1]
	for _, beside := range [][][]byte{{long}, {nil, long}, {long, nil}, {long[1:], long, long[1:]}} {
		got, e = kem.Box(point, api.Key{2}, nil, beside...)
		refused(t, "long beside", got, e, api.ErrLong)
	}
	got, e = kem.Box(point, api.Key{2}, b[:10], long[1:], long[1:])
	if len(got) != 58 || e != api.OK {
		t.Errorf("got %d bytes, %d", len(got), e)
	}
}

// P8.3

func TestUnbox(t *testing.T) {
	for i, secret := range seeds() {
		for j, seed := range seeds() {
			for _, n := range []int{0, 1, 5, 40} {
				beside := besides()[(i+j+n)%8]
				got, e := kem.Unbox(secret, boxedByLibrary(pointOf(secret), seed, filled(n), beside...), beside...)
				if !bytes.Equal(got, filled(n)) || e != api.OK {
					t.Errorf("%d, %d, %d bytes: got %d bytes, %d", i, j, n, len(got), e)
				}
			}
		}
	}
}

func TestUnboxTooShort(t *testing.T) {
	secret, point := kem.Pair(api.Key{1})
	b, long := boxed(t, point, api.Key{2}, nil), make([]byte, api.MaxText+1)
	if len(b) != 48 {
		t.Fatal(len(b))
	}
	for n := range 48 {
		got, e := kem.Unbox(secret, b[:n])
		refused(t, "short", got, e, api.ErrShort)
		// What is too short is told ahead of what is too long.
		got, e = kem.Unbox(secret, b[:n], long)
		refused(t, "short, and long beside", got, e, api.ErrShort)
	}
	got, e := kem.Unbox(secret, nil)
	refused(t, "nothing", got, e, api.ErrShort)
	// Just enough bytes are a text of none.
	if got, e := kem.Unbox(secret, b); len(got) != 0 || e != api.OK {
		t.Errorf("got %d bytes, %d", len(got), e)
	}
}

// A point that makes nothing is told as soon as it stands there whole, ahead of what is wrong behind it.
func TestUnboxOfNothing(t *testing.T) {
	long := make([]byte, api.MaxText+1)
	for _, point := range small(t) {
		for _, secret := range seeds() {
			for _, n := range []int{0, 1, 15, 16, 100} {
				got, e := kem.Unbox(secret, append(point[:], make([]byte, n)...))
				refused(t, "a small point", got, e, api.ErrArg)
			}
		}
		got, e := kem.Unbox(api.Key{1}, append(point[:], make([]byte, api.MaxBytes+17)...))
		refused(t, "a small point, and too much", got, e, api.ErrArg)
		got, e = kem.Unbox(api.Key{1}, append(point[:], make([]byte, 20)...), long)
		refused(t, "a small point, and long beside", got, e, api.ErrArg)
		got, e = kem.Unbox(api.Key{1}, point[:31])
		refused(t, "a part of a small point", got, e, api.ErrShort)
	}
}

func TestUnboxTooLong(t *testing.T) {
	secret, point := kem.Pair(api.Key{1})
	full := boxed(t, point, api.Key{2}, filled(api.MaxBytes))
	if got, e := kem.Unbox(secret, full); !bytes.Equal(got, filled(api.MaxBytes)) || e != api.OK {
		t.Errorf("got %d bytes, %d", len(got), e)
	}
	got, e := kem.Unbox(secret, append(slices.Clone(full), 0))
	refused(t, "one byte more", got, e, api.ErrLong)
	// Even if its sum is right.
	got, e = kem.Unbox(secret, boxedByLibrary(point, api.Key{2}, make([]byte, api.MaxBytes+1)))
	refused(t, "one byte more, boxed", got, e, api.ErrLong)
	got, e = kem.Unbox(secret, full[:len(full)-1])
	refused(t, "one byte fewer", got, e, api.ErrSum)
	long := make([]byte, api.MaxText+1)
	for _, beside := range [][][]byte{{long}, {nil, long}, {long, nil}, {long[1:], long}} {
		got, e = kem.Unbox(secret, full[:60], beside...)
		refused(t, "long beside", got, e, api.ErrLong)
	}
}

// Every bit of a box counts: those of the point ahead, of the text, and of the sum.
func TestUnboxChanged(t *testing.T) {
	secret, point := kem.Pair(api.Key{1})
	b := boxed(t, point, api.Key{2}, []byte("text"), []byte("a"))
	for i := range b {
		for bit := range 8 {
			b[i] ^= 1 << bit
			got, e := kem.Unbox(secret, b, []byte("a"))
			refused(t, "a bit changed", got, e, api.ErrSum)
			b[i] ^= 1 << bit
		}
	}
	if got, e := kem.Unbox(secret, b, []byte("a")); string(got) != "text" || e != api.OK {
		t.Errorf("got %q, %d", got, e)
	}
	for _, other := range [][]byte{append([]byte{0}, b...), append(slices.Clone(b), 0), b[1:], b[:len(b)-1]} {
		got, e := kem.Unbox(secret, other, []byte("a"))
		refused(t, "bytes more or fewer", got, e, api.ErrSum)
	}
}

// Another secret does not unbox it, unless it is the same, clamped.
func TestUnboxByAnother(t *testing.T) {
	secret, point := kem.Pair(api.Key{1})
	b := boxed(t, point, api.Key{2}, []byte("text"))
	for i := range secret {
		for bit := range 8 {
			other := secret
			other[i] ^= 1 << bit
			got, e := kem.Unbox(other, b)
			if curve.Clamp(other) != curve.Clamp(secret) {
				refused(t, "another secret", got, e, api.ErrSum)
			} else if string(got) != "text" || e != api.OK {
				t.Errorf("the same, clamped: got %q, %d", got, e)
			}
		}
	}
	// Not even the secret of the point ahead does: it is for the other one.
	maker, ahead := pairByLibrary(derived([]byte{31: 0}, []byte("box")))
	b = boxed(t, point, api.Key{}, []byte("text"))
	if !bytes.Equal(b[:32], ahead[:]) {
		t.Fatalf("got %x", b[:32])
	}
	got, e := kem.Unbox(maker, b)
	refused(t, "who boxed it", got, e, api.ErrSum)
}

func TestUnboxBesideOthers(t *testing.T) {
	secret, point := kem.Pair(api.Key{1})
	all := besides()
	for i, beside := range all {
		b := boxed(t, point, api.Key{2}, []byte("text"), beside...)
		for j, other := range all {
			got, e := kem.Unbox(secret, b, other...)
			if i == j {
				if string(got) != "text" || e != api.OK {
					t.Errorf("%d: got %q, %d", i, got, e)
				}
			} else if len(got) != 0 || e != api.ErrSum {
				t.Errorf("%d beside %d: got %q, %d", i, j, got, e)
			}
		}
	}
}

// For whom it is counts as it stood there: a point that is written in another way is another one.
func TestUnboxForAnotherWay(t *testing.T) {
	secret, point := kem.Pair(api.Key{1})
	point[31] |= 128
	got, e := kem.Unbox(secret, boxed(t, point, api.Key{2}, []byte("text")))
	refused(t, "the highest bit", got, e, api.ErrSum)
}

// P8.4

func TestBoxedIsUnboxed(t *testing.T) {
	for _, s := range seeds() {
		secret, point := kem.Pair(s)
		for i, seed := range seeds() {
			for _, n := range []int{0, 1, 16, 1000} {
				beside := besides()[(i+n)%len(besides())]
				if got, e := kem.Unbox(secret, boxed(t, point, seed, filled(n), beside...), beside...); !bytes.Equal(got, filled(n)) || e != api.OK {
					t.Errorf("%d bytes: got %d bytes, %d", n, len(got), e)
				}
			}
		}
	}
}

// A box stands on seal: it is the pair's point, and what seal.Seal makes with the key of two.
func TestBoxIsSealed(t *testing.T) {
	secret, point := kem.Pair(api.Key{1})
	b := boxed(t, point, api.Key{2}, []byte("text"), []byte("a"))
	k, e := kem.Shared(secret, api.Key(b[:32]), api.Key(b[:32]), point)
	if e != api.OK {
		t.Fatal(e)
	}
	if got, e := seal.Open(k, b[32:], []byte("a")); string(got) != "text" || e != api.OK {
		t.Errorf("got %q, %d", got, e)
	}
}

// Each of point, seed, text and texts beside makes another box, and what is boxed for one is not for the others.
func TestBoxedApart(t *testing.T) {
	was := map[string]int{}
	at := 0
	for _, s := range seeds()[:4] {
		_, point := kem.Pair(s)
		for _, seed := range seeds()[:4] {
			for _, plain := range [][]byte{nil, {0}, {0, 0}, filled(20)} {
				for _, beside := range [][][]byte{nil, {nil}, {{0}}} {
					b := string(boxed(t, point, seed, plain, beside...))
					if i, is := was[b[32:]]; is {
						t.Errorf("%d and %d are the same", i, at)
					}
					was[b[32:]] = at
					at++
				}
			}
		}
	}
	for i, s := range seeds() {
		_, point := kem.Pair(s)
		b := boxed(t, point, api.Key{2}, []byte("text"))
		for j, r := range seeds() {
			other, _ := kem.Pair(r)
			if got, e := kem.Unbox(other, b); i != j && (len(got) != 0 || e != api.ErrSum) {
				t.Errorf("%d by %d: got %q, %d", i, j, got, e)
			}
		}
	}
}

// R2: what is handed in is not changed, room behind it or none, and what is answered shares nothing with it.
func TestNothingIsShared(t *testing.T) {
	b := filled(1000)
	before := slices.Clone(b)
	beside := make([][]byte, 2, 5)
	beside[0], beside[1] = b[200:210], b[300:400]
	secret, point := kem.Pair(api.Key{1})
	out := boxed(t, point, api.Key{2}, b[:40], beside...)
	was := slices.Clone(out)
	room := append(make([]byte, 0, 200), out...)
	plain, e := kem.Unbox(secret, room, beside...)
	if !bytes.Equal(plain, before[:40]) || e != api.OK {
		t.Fatalf("got %x, %d", plain, e)
	}
	if !bytes.Equal(b, before) || !bytes.Equal(room, was) || !bytes.Equal(beside[0], before[200:210]) || !bytes.Equal(beside[1], before[300:400]) {
		t.Fatal("what was handed in was changed")
	}
	for _, x := range beside[:cap(beside)][2:] {
		if x != nil {
			t.Error("the room behind the texts beside was written into")
		}
	}
	if behind := room[len(room):cap(room)]; !bytes.Equal(behind, make([]byte, len(behind))) {
		t.Error("the room behind the box was written into")
	}
	clear(b)
	clear(room)
	if !bytes.Equal(out, was) || !bytes.Equal(plain, before[:40]) {
		t.Error("what was answered is another one now")
	}
	again := boxed(t, point, api.Key{2}, before[:40], before[200:210], before[300:400])
	clear(out)
	if !bytes.Equal(again, was) {
		t.Error("two answers share their bytes, or are not the same")
	}
}
