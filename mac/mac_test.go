package mac_test

import (
	"bytes"
	"crypto/hkdf"
	"crypto/hmac"
	"crypto/sha256"
	"encoding/binary"
	"encoding/hex"
	"math"
	"slices"
	"strings"
	"testing"

	"coterie/api"
	"coterie/mac"
	"coterie/sha"
)

// room is how many bytes are left for label and contexts, each with the two of its length, behind the text `coterie`.
const room = api.MaxBytes - 9

func filled(n int) []byte {
	b := make([]byte, n)
	for i := range b {
		b[i] = byte(i*7 + i>>8 + 1)
	}
	return b
}

func unhex(t *testing.T, text string) []byte {
	t.Helper()
	b, err := hex.DecodeString(text)
	if err != nil {
		t.Fatal(err)
	}
	return b
}

// byLibrary is the library's sum with a key.
func byLibrary(key []byte, parts ...[]byte) api.Key {
	h := hmac.New(sha256.New, key)
	for _, p := range parts {
		h.Write(p)
	}
	return api.Key(h.Sum(nil))
}

// expandedByLibrary is what the library expands a key to.
func expandedByLibrary(t *testing.T, k api.Key, info []byte, n int) []byte {
	t.Helper()
	b, err := hkdf.Expand(sha256.New, k[:], string(info), n)
	if err != nil {
		t.Fatal(err)
	}
	return b
}

// derived is what the library derives, by texts that are put together here.
func derived(t *testing.T, k api.Key, label string, context ...[]byte) api.Key {
	t.Helper()
	var info []byte
	for _, x := range slices.Concat([][]byte{[]byte("coterie"), []byte(label)}, context) {
		info = binary.BigEndian.AppendUint16(info, uint16(len(x)))
		info = append(info, x...)
	}
	return api.Key(expandedByLibrary(t, k, info, 32))
}

// P3.1

func TestMacKnown(t *testing.T) {
	long := "This is a test using a larger than block-size key and a larger than block-size data. The key needs to be hashed before being used by the HMAC algorithm."
	for i, x := range []struct{ key, text, want string }{
		{"key", "The quick brown fox jumps over the lazy dog", "f7bc83f430538424b13298e6aa6fb143ef4d59a14946175997479dbc2d1a3cd8"},
		{"", "", "b613679a0814d9ec772f95d778c35fc5ff1697c493715653c6c712144292c5ad"},
		{strings.Repeat("\x0b", 20), "Hi There", "b0344c61d8db38535ca8afceaf0bf12b881dc200c9833da726e9376c2e32cff7"},
		{"Jefe", "what do ya want for nothing?", "5bdcc146bf60754e6a042426089575c75a003f089d2739839dec58b964ec3843"},
		{strings.Repeat("\xaa", 20), strings.Repeat("\xdd", 50), "773ea91e36800e46854db8ebd09181a72959098b3ef8c122d9635514ced565fe"},
		{strings.Repeat("\xaa", 131), "Test Using Larger Than Block-Size Key - Hash Key First", "60e431591ee0b67f0d8a26aacbf5b77f8e0bc6213728c5140546040f0ee37f54"},
		{strings.Repeat("\xaa", 131), long, "9b09ffa71b942fcb27635fbcd5b0e944bfdc63644f0713938a7f51535c3a35e2"},
	} {
		if k := mac.Mac([]byte(x.key), []byte(x.text)); hex.EncodeToString(k[:]) != x.want {
			t.Errorf("%d: got %x", i, k)
		}
	}
}

// Keys of every length up to some blocks: below 64 bytes, just 64, and above.
func TestMacLengths(t *testing.T) {
	b := filled(200)
	for n := range b {
		for _, many := range []int{0, 1, 55, 56, 64, 130} {
			if got := mac.Mac(b[:n], b[:many]); got != byLibrary(b[:n], b[:many]) {
				t.Errorf("a key of %d bytes, %d bytes: got %x", n, many, got)
			}
		}
		if got := mac.Mac(b[:64], b[:n]); got != byLibrary(b[:64], b[:n]) {
			t.Errorf("%d bytes: got %x", n, got)
		}
	}
	if big := filled(100000); mac.Mac(big, big) != byLibrary(big, big) {
		t.Error("a long key, and a long text")
	}
}

func TestMacParts(t *testing.T) {
	key, b := []byte("key"), filled(150)
	none := byLibrary(key)
	for i, parts := range [][][]byte{nil, {nil}, {{}}, {nil, {}, nil}} {
		if got := mac.Mac(key, parts...); got != none {
			t.Errorf("nothing, %d: got %x", i, got)
		}
	}
	want := byLibrary(key, b)
	for i, parts := range [][][]byte{{b}, {nil, b}, {b[:1], {}, b[1:]}, {b[:64], b[64:128], b[128:]}, {b[:149], b[149:], nil}} {
		if got := mac.Mac(key, parts...); got != want {
			t.Errorf("%d: got %x", i, got)
		}
	}
	if mac.Mac(key, b[1:], b[:1]) == want || mac.Mac(key, b[:149]) == want || mac.Mac([]byte("kez"), b) == want || mac.Mac(nil, key, b) == want {
		t.Error("another key, or other bytes, have the same sum")
	}
}

func TestExtract(t *testing.T) {
	for i, x := range []struct{ salt, secret, want string }{
		{"000102030405060708090a0b0c", strings.Repeat("0b", 22), "077709362c2e32df0ddc3f0dc47bba6390b6c73bb50f9c3122ec844ad7c2b3e5"},
		{"", strings.Repeat("0b", 22), "19ef24a32c717b167f33a91d6f648bdf96596776afdb6377ac434c1c293ccb04"},
	} {
		if k := mac.Extract(unhex(t, x.salt), unhex(t, x.secret)); hex.EncodeToString(k[:]) != x.want {
			t.Errorf("%d: got %x", i, k)
		}
	}
	b := filled(150)
	for _, n := range []int{0, 1, 32, 63, 64, 65, 150} {
		for _, many := range []int{0, 1, 32, 64, 100} {
			salt, secret := b[:n], b[150-many:]
			want, err := hkdf.Extract(sha256.New, secret, salt)
			if err != nil {
				t.Fatal(err)
			}
			if k := mac.Extract(salt, secret); k != api.Key(want) || k != mac.Mac(salt, secret) {
				t.Errorf("%d, %d: got %x", n, many, k)
			}
		}
	}
	if mac.Extract([]byte("a"), []byte("b")) == mac.Extract([]byte("b"), []byte("a")) {
		t.Error("salt and secret are the same")
	}
}

func TestEqual(t *testing.T) {
	for n := range 70 {
		b := filled(n)
		if !mac.Equal(b, b) || !mac.Equal(b, slices.Clone(b)) {
			t.Errorf("%d bytes are not the same as themselves", n)
		}
		for _, more := range []byte{0, 1, 255} {
			if longer := append(slices.Clone(b), more); mac.Equal(b, longer) || mac.Equal(longer, b) {
				t.Errorf("%d bytes are the same with %d behind", n, more)
			}
			if longer := append([]byte{more}, b...); mac.Equal(b, longer) || mac.Equal(longer, b) {
				t.Errorf("%d bytes are the same with %d ahead", n, more)
			}
		}
		for i := range b {
			for bit := range 8 {
				other := slices.Clone(b)
				other[i] ^= 1 << bit
				if mac.Equal(b, other) || mac.Equal(other, b) {
					t.Errorf("%d bytes are the same with bit %d of byte %d changed", n, bit, i)
				}
			}
		}
	}
	if !mac.Equal(nil, []byte{}) || !mac.Equal([]byte{}, nil) || !mac.Equal(nil, nil) {
		t.Error("nil and empty are two")
	}
	// Two bytes that are changed likewise do not make up for one another.
	if mac.Equal([]byte{1, 1}, []byte{2, 2}) || mac.Equal([]byte{1, 2}, []byte{2, 1}) || mac.Equal([]byte{0, 0}, []byte{128, 128}) {
		t.Error("two changes come to none")
	}
}

// P3.2

func TestExpandKnown(t *testing.T) {
	for i, x := range []struct{ key, info, want string }{
		{
			"077709362c2e32df0ddc3f0dc47bba6390b6c73bb50f9c3122ec844ad7c2b3e5", "f0f1f2f3f4f5f6f7f8f9",
			"3cb25f25faacd57a90434f64d0362f2a2d2d0a90cf1a5a4c5db02d56ecc4c5bf34007208d5b887185865",
		},
		{
			"19ef24a32c717b167f33a91d6f648bdf96596776afdb6377ac434c1c293ccb04", "",
			"8da4e775a563c18f715f802a063c5a31b8a11f5c5ee1879ec3454e5f3c738d2d9d201395faa4b61a96c8",
		},
	} {
		want := unhex(t, x.want)
		got, e := mac.Expand(api.Key(unhex(t, x.key)), unhex(t, x.info), len(want))
		if !bytes.Equal(got, want) || e != api.OK {
			t.Errorf("%d: got %x, %d", i, got, e)
		}
	}
}

func TestExpandLengths(t *testing.T) {
	for i, k := range []api.Key{{}, {1}, {31: 1}, sha.Sum(), sha.Sum([]byte("abc"))} {
		for _, n := range []int{0, 1, 31, 32, 33, 63, 64, 65, 1000, 8128, 8129, 8159, 8160} {
			for _, many := range []int{0, 1, 64, 300} {
				info := filled(many)
				got, e := mac.Expand(k, info, n)
				if !bytes.Equal(got, expandedByLibrary(t, k, info, n)) || e != api.OK {
					t.Errorf("key %d, %d bytes by %d: %d bytes, %d", i, n, many, len(got), e)
				}
			}
		}
	}
}

func TestExpandWrong(t *testing.T) {
	k := sha.Sum([]byte("abc"))
	for _, n := range []int{-1, -32, math.MinInt, 8161, 8192, 1 << 32, math.MaxInt} {
		// What is asked wrongly is told ahead of what is too long.
		for _, many := range []int{0, 1, api.MaxBytes, api.MaxBytes + 1} {
			if got, e := mac.Expand(k, make([]byte, many), n); got != nil || e != api.ErrArg {
				t.Errorf("%d bytes by %d: got %d bytes, %d", n, many, len(got), e)
			}
		}
	}
	for _, n := range []int{0, 1, 32, 8160} {
		for _, many := range []int{api.MaxBytes + 1, api.MaxBytes * 2} {
			if got, e := mac.Expand(k, make([]byte, many), n); got != nil || e != api.ErrLong {
				t.Errorf("%d bytes by %d: got %d bytes, %d", n, many, len(got), e)
			}
		}
	}
}

func TestExpandByMany(t *testing.T) {
	k, info := sha.Sum([]byte("abc")), filled(api.MaxBytes)
	for _, many := range []int{api.MaxText + 1, api.MaxBytes - 1, api.MaxBytes} {
		for _, n := range []int{0, 1, 33} {
			got, e := mac.Expand(k, info[:many], n)
			if !bytes.Equal(got, expandedByLibrary(t, k, info[:many], n)) || e != api.OK {
				t.Errorf("%d bytes by %d: got %x, %d", n, many, got, e)
			}
		}
	}
}

// Nothing behind what was asked for is told.
func TestExpandHasNoRoom(t *testing.T) {
	for _, n := range []int{0, 1, 31, 32, 33, 42, 100, 8159, 8160} {
		got, e := mac.Expand(api.Key{9}, []byte("info"), n)
		if len(got) != n || cap(got) != n || e != api.OK {
			t.Errorf("%d: got %d bytes, with room for %d, %d", n, len(got), cap(got), e)
		}
	}
}

func TestDerive(t *testing.T) {
	text := filled(api.MaxText)
	for i, x := range []struct {
		label   string
		context [][]byte
	}{
		{"", nil},
		{"path", nil},
		{"path", [][]byte{{1, 2}}},
		{"path", [][]byte{nil}},
		{"path", [][]byte{{}, {}, nil}},
		{"path", [][]byte{{}, {7}, filled(300)}},
		{"\xff\x00\xfe", [][]byte{{0}}},
		{"größer", [][]byte{[]byte("größer")}},
		{strings.Repeat("a", api.MaxText), nil},
		{strings.Repeat("a", api.MaxText), [][]byte{text}},
		{"path", [][]byte{text, {1}, text}},
		{"", slices.Repeat([][]byte{nil}, room/2-1)},
	} {
		for _, k := range []api.Key{{}, sha.Sum([]byte("abc"))} {
			if got, e := mac.Derive(k, x.label, x.context...); got != derived(t, k, x.label, x.context...) || e != api.OK {
				t.Errorf("%d: got %x, %d", i, got, e)
			}
		}
	}
}

func TestDeriveByExpand(t *testing.T) {
	k := sha.Sum([]byte("abc"))
	want, _ := mac.Expand(k, []byte("\x00\x07coterie\x00\x04path\x00\x02\x01\x02"), 32)
	if got, e := mac.Derive(k, "path", []byte{1, 2}); !bytes.Equal(got[:], want) || e != api.OK {
		t.Errorf("got %x, %d", got, e)
	}
}

func TestDeriveTooLong(t *testing.T) {
	k := api.Key{1}
	long := make([]byte, api.MaxText+1)
	for i, x := range []struct {
		label   string
		context [][]byte
	}{
		{strings.Repeat("a", api.MaxText+1), nil},
		{strings.Repeat("a", api.MaxText+1), [][]byte{{1}}},
		{strings.Repeat("a", 1<<21), nil},
		// It is bytes that count, not runes.
		{strings.Repeat("ö", api.MaxText/2+1), nil},
		{"", [][]byte{long}},
		{"path", [][]byte{{1}, long, {2}}},
		{"path", [][]byte{{1}, {2}, make([]byte, 1<<21)}},
		// Each one is short enough, but all together are not.
		{"path", slices.Repeat([][]byte{long[1:]}, 16)},
		{"path", append(slices.Repeat([][]byte{long[1:]}, 16), long)},
		{"", slices.Repeat([][]byte{nil}, room/2)},
		{"", slices.Repeat([][]byte{long[1:]}, 1<<16)},
	} {
		if got, e := mac.Derive(k, x.label, x.context...); got != (api.Key{}) || e != api.ErrLong {
			t.Errorf("%d: got %x, %d", i, got, e)
		}
	}
}

// All texts together have just as many bytes as may be, or one more.
func TestDeriveAtTheBound(t *testing.T) {
	k, b := api.Key{1}, filled(api.MaxText)
	left := room - 2 - 15*(2+api.MaxText) - 2
	full := slices.Repeat([][]byte{b}, 15)
	for _, less := range []int{0, 1, 100} {
		context := append(full[:15:15], b[:left-less])
		if got, e := mac.Derive(k, "", context...); got != derived(t, k, "", context...) || e != api.OK {
			t.Errorf("%d less: got %x, %d", less, got, e)
		}
	}
	for i, x := range []struct {
		label string
		last  []byte
	}{{"", b[:left+1]}, {"a", b[:left]}, {"abc", b[:left-2]}, {"", b}} {
		if got, e := mac.Derive(k, x.label, append(full[:15:15], x.last)...); got != (api.Key{}) || e != api.ErrLong {
			t.Errorf("%d: got %x, %d", i, got, e)
		}
	}
}

// Each label and context is a text of its own: none runs into the next one, and each counts.
func TestDeriveApart(t *testing.T) {
	type ask struct {
		k       api.Key
		label   string
		context [][]byte
	}
	was := map[api.Key]int{}
	for i, x := range []ask{
		{api.Key{1}, "ab", nil},
		{api.Key{2}, "ab", nil},
		{api.Key{1}, "a", [][]byte{[]byte("b")}},
		{api.Key{1}, "", [][]byte{[]byte("ab")}},
		{api.Key{1}, "ab", [][]byte{nil}},
		{api.Key{1}, "ab", [][]byte{nil, nil}},
		{api.Key{1}, "ab", [][]byte{{0}}},
		{api.Key{1}, "ab", [][]byte{{1}, {2}}},
		{api.Key{1}, "ab", [][]byte{{2}, {1}}},
		{api.Key{1}, "ab", [][]byte{{1, 2}}},
		{api.Key{1}, "coterie", nil},
		{api.Key{1}, "", nil},
	} {
		got, e := mac.Derive(x.k, x.label, x.context...)
		if e != api.OK {
			t.Fatal(i, e)
		}
		if at, is := was[got]; is {
			t.Errorf("%d and %d are the same", at, i)
		}
		was[got] = i
	}
}

// P3.3

func TestMoreBeginWithFewer(t *testing.T) {
	k, info := sha.Sum([]byte("abc")), []byte("info")
	all, e := mac.Expand(k, info, api.MaxExpand)
	if len(all) != api.MaxExpand || e != api.OK {
		t.Fatal(len(all), e)
	}
	for n := 0; n <= api.MaxExpand; n += 1 + n/50 {
		if got, e := mac.Expand(k, info, n); !bytes.Equal(got, all[:n]) || e != api.OK {
			t.Errorf("%d: got %d bytes, %d", n, len(got), e)
		}
	}
}

func TestZerosBehindAKey(t *testing.T) {
	text := []byte("text")
	for n := range 65 {
		key := filled(n)
		want := mac.Mac(key, text)
		for more := range 64 - n {
			longer := append(slices.Clone(key), make([]byte, more+1)...)
			if mac.Mac(longer, text) != want || mac.Extract(longer, text) != want {
				t.Errorf("%d bytes are another key with %d zeros behind", n, more+1)
			}
		}
		// Beyond a block it is the sum that counts, not the zeros.
		beyond := append(slices.Clone(key), make([]byte, 65-n)...)
		if mac.Mac(beyond, text) == want {
			t.Errorf("%d bytes are the same key with zeros behind, beyond 64", n)
		}
		if n < 64 && mac.Mac(append(slices.Clone(key), 1), text) == want || n > 0 && mac.Mac(append([]byte{0}, key...), text) == want {
			t.Errorf("%d bytes are the same key with another byte", n)
		}
	}
}

func TestALongKeyIsItsSum(t *testing.T) {
	text := []byte("text")
	for _, n := range []int{64, 65, 66, 128, 1000} {
		key := filled(n)
		sum := sha.Sum(key)
		if same := mac.Mac(key, text) == mac.Mac(sum[:], text); same != (n > 64) {
			t.Errorf("%d bytes: as their sum: %t", n, same)
		}
	}
}

// R2: what is handed in is not changed, room behind it or none, and what is answered shares nothing with it.
func TestNothingIsShared(t *testing.T) {
	b := filled(1000)
	before := slices.Clone(b)
	k := api.Key{1, 2, 3}
	keys := [][]byte{b[:10], b[:64], b[:100]}
	parts := make([][]byte, 2, 5)
	parts[0], parts[1] = b[200:210], b[300:400]
	for _, key := range keys {
		mac.Mac(key, parts...)
		mac.Extract(key, parts[0])
		mac.Equal(key, b[500:600])
	}
	out, e := mac.Expand(k, b[600:620], 40)
	if e != api.OK {
		t.Fatal(e)
	}
	was := slices.Clone(out)
	if _, e := mac.Derive(k, "path", parts...); e != api.OK {
		t.Fatal(e)
	}
	if !bytes.Equal(b, before) || k != (api.Key{1, 2, 3}) || !bytes.Equal(parts[0], before[200:210]) || !bytes.Equal(parts[1], before[300:400]) {
		t.Fatal("what was handed in was changed")
	}
	for _, p := range parts[:cap(parts)][2:] {
		if p != nil {
			t.Error("the room behind the parts was written into")
		}
	}
	clear(b)
	again, _ := mac.Expand(k, before[600:620], 40)
	if !bytes.Equal(out, was) || !bytes.Equal(again, was) {
		t.Errorf("what was answered is now %x", out)
	}
	clear(out)
	if !bytes.Equal(again, was) {
		t.Error("two answers share their bytes")
	}
}
