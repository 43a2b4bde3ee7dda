package sha_test

import (
	"bytes"
	"crypto/sha256"
	"encoding"
	"encoding/binary"
	"encoding/hex"
	"math"
	"slices"
	"strings"
	"testing"

	"coterie/api"
	"coterie/sha"
)

var firstWords = [8]uint32{0x6a09e667, 0xbb67ae85, 0x3c6ef372, 0xa54ff53a, 0x510e527f, 0x9b05688c, 0x1f83d9ab, 0x5be0cd19}

func filled(n int) []byte {
	b := make([]byte, n)
	for i := range b {
		b[i] = byte(i*7 + i>>8 + 1)
	}
	return b
}

// written is what is not done behind New, by parts that are written one by one.
func written(t *testing.T, parts ...[]byte) api.Sha {
	t.Helper()
	s := sha.New()
	for _, p := range parts {
		next, e := sha.Write(s, p)
		if e != api.OK {
			t.Fatalf("write of %d bytes behind %d: %d", len(p), s.N, e)
		}
		s = next
	}
	return s
}

func isZero(s api.Sha) bool { return s.H == [8]uint32{} && s.N == 0 && s.Rest == nil }

// marshaled is what the library's hash holds: four bytes that name it, the words, room for a block, and how many bytes were taken.
func marshaled(s api.Sha) []byte {
	b := []byte("sha\x03")
	for _, x := range s.H {
		b = binary.BigEndian.AppendUint32(b, x)
	}
	b = append(b, s.Rest...)
	b = append(b, make([]byte, 64-len(s.Rest))...)
	return binary.BigEndian.AppendUint64(b, s.N)
}

// doneByLibrary is the sum by the library's hash of one that is not done.
func doneByLibrary(t *testing.T, s api.Sha) api.Key {
	t.Helper()
	h := sha256.New()
	if err := h.(encoding.BinaryUnmarshaler).UnmarshalBinary(marshaled(s)); err != nil {
		t.Fatal(err)
	}
	return api.Key(h.Sum(nil))
}

// mayBe are sums that are not done that may be, at the edges too.
func mayBe() []api.Sha {
	return []api.Sha{
		{H: firstWords},
		{H: firstWords, Rest: []byte{}},
		{H: firstWords, N: 1, Rest: []byte{0}},
		{H: firstWords, N: 63, Rest: filled(63)},
		{N: 64},
		{H: firstWords, N: 64},
		{H: [8]uint32{1, 2, 3, 4, 5, 6, 7, 8}, N: 64, Rest: []byte{}},
		{H: [8]uint32{math.MaxUint32, 1}, N: 65, Rest: filled(1)},
		{N: 127, Rest: filled(63)},
		{N: 1<<32 + 5, Rest: filled(5)},
		{H: [8]uint32{7: 1}, N: 1<<29 + 56, Rest: filled(56)},
		{N: api.MaxSha - 64},
		{N: api.MaxSha - 1, Rest: filled(63)},
		{N: api.MaxSha},
		{H: firstWords, N: api.MaxSha, Rest: []byte{}},
	}
}

// mayNotBe are sums that are not done that may not be: N is above MaxSha, Rest has another length, or words are not the first ones.
func mayNotBe() []api.Sha {
	list := []api.Sha{
		{},
		{N: api.MaxSha + 1, Rest: filled(1)},
		{N: api.MaxSha + 63, Rest: filled(63)},
		{N: api.MaxSha + 64},
		{N: 1 << 41},
		{N: 1 << 63},
		{H: firstWords, N: 1 << 63},
		{H: firstWords, N: math.MaxUint64, Rest: filled(63)},
		{H: firstWords, N: math.MaxUint64 - 63},
		{H: firstWords, Rest: filled(1)},
		{H: firstWords, Rest: filled(64)},
		{H: firstWords, N: 1},
		{H: firstWords, N: 1, Rest: filled(2)},
		{H: firstWords, N: 1, Rest: filled(65)},
		{H: firstWords, N: 63},
		{H: firstWords, N: 63, Rest: filled(62)},
		{H: firstWords, N: 63, Rest: filled(64)},
		{N: 64, Rest: filled(1)},
		{N: 64, Rest: filled(63)},
		{N: 64, Rest: filled(64)},
		{N: 65},
		{N: 65, Rest: filled(65)},
		{N: 128, Rest: filled(128)},
		{N: api.MaxSha - 1},
		{N: api.MaxSha, Rest: filled(64)},
		{N: 1, Rest: filled(1)},
		{N: 63, Rest: filled(63)},
	}
	for i := range firstWords {
		other := firstWords
		other[i]++
		list = append(list, api.Sha{H: other}, api.Sha{H: other, N: 63, Rest: filled(63)})
	}
	return list
}

// P2.1

func TestSumKnown(t *testing.T) {
	for _, x := range []struct{ text, want string }{
		{"", "e3b0c44298fc1c149afbf4c8996fb92427ae41e4649b934ca495991b7852b855"},
		{"abc", "ba7816bf8f01cfea414140de5dae2223b00361a396177a9cb410ff61f20015ad"},
		{"abcdbcdecdefdefgefghfghighijhijkijkljklmklmnlmnomnopnopq", "248d6a61d20638b8e5c026930c3e6039a33ce45964ff2167f6ecedd419db06c1"},
		{"abcdefghbcdefghicdefghijdefghijkefghijklfghijklmghijklmnhijklmnoijklmnopjklmnopqklmnopqrlmnopqrsmnopqrstnopqrstu", "cf5b16a778af8380036ce59e7b0492370b249b11e8f07a51afac45037afee9d1"},
		{strings.Repeat("a", 1000000), "cdc76e5c9914fb9281a1c7e284d73e67f1809a48a497200e046d39ccc7112cd0"},
	} {
		if sum := sha.Sum([]byte(x.text)); hex.EncodeToString(sum[:]) != x.want {
			t.Errorf("%.20q: got %x", x.text, sum)
		}
	}
}

// Every length up to some blocks, so that the padding is met wherever it ends.
func TestSumLengths(t *testing.T) {
	b := filled(700)
	for n := range b {
		if got, want := sha.Sum(b[:n]), sha256.Sum256(b[:n]); got != api.Key(want) {
			t.Errorf("%d bytes: got %x", n, got)
		}
	}
	for _, n := range []int{0, 1, 55, 56, 63, 64, 65, 119, 120, 128} {
		for _, x := range []byte{0, 128, 255} {
			same := bytes.Repeat([]byte{x}, n)
			if got, want := sha.Sum(same), sha256.Sum256(same); got != api.Key(want) {
				t.Errorf("%d bytes %d: got %x", n, x, got)
			}
		}
	}
}

// More than 2^29 bytes have more bits than one word tells; the same bytes are handed in over and over.
func TestSumOfMany(t *testing.T) {
	if testing.Short() {
		t.Skip("takes seconds")
	}
	part := filled(1<<20 + 1)
	parts := slices.Repeat([][]byte{part}, 513)
	h := sha256.New()
	for _, p := range parts {
		h.Write(p)
	}
	if got := sha.Sum(parts...); got != api.Key(h.Sum(nil)) {
		t.Errorf("got %x", got)
	}
}

func TestSumParts(t *testing.T) {
	b := filled(300)
	none := sha.Sum([]byte{})
	for i, parts := range [][][]byte{{}, {nil}, {{}}, {nil, {}, nil}} {
		if got := sha.Sum(parts...); got != none {
			t.Errorf("%d: got %x", i, got)
		}
	}
	if sha.Sum() != none {
		t.Error("no parts have another sum than nothing")
	}
	want := sha.Sum(b)
	for i, parts := range [][][]byte{
		{b, nil},
		{nil, b},
		{b[:1], {}, b[1:]},
		{b[:64], b[64:128], b[128:]},
		{b[:63], b[63:65], b[65:66], b[66:]},
		{b[:10], b[10:299], b[299:]},
	} {
		if got := sha.Sum(parts...); got != want {
			t.Errorf("%d: got %x", i, got)
		}
	}
	if sha.Sum(b[1:], b[:1]) == want || sha.Sum(b[:299]) == want || sha.Sum(b, []byte{0}) == want {
		t.Error("other bytes have the same sum")
	}
}

// P2.2

func TestNew(t *testing.T) {
	s := sha.New()
	if s.H != firstWords || s.N != 0 || len(s.Rest) != 0 || sha.Check(s) != api.OK {
		t.Errorf("got %v", s)
	}
	if sum, e := sha.Done(s); sum != sha.Sum() || e != api.OK {
		t.Errorf("done: %x, %d", sum, e)
	}
	s.H[0], s.N = 1, 7
	if again := sha.New(); again.H != firstWords || again.N != 0 {
		t.Errorf("then: %v", again)
	}
}

func TestCheck(t *testing.T) {
	for i, s := range mayBe() {
		if e := sha.Check(s); e != api.OK {
			t.Errorf("may be, %d: got %d", i, e)
		}
	}
	for i, s := range mayNotBe() {
		if e := sha.Check(s); e != api.ErrArg {
			t.Errorf("may not be, %d: got %d", i, e)
		}
	}
}

// What may not be is told ahead of what is too long.
func TestWhatMayNotBe(t *testing.T) {
	for i, s := range mayNotBe() {
		for k, parts := range [][][]byte{nil, {nil}, {{1}}, {filled(64), filled(1)}} {
			if got, e := sha.Write(s, parts...); !isZero(got) || e != api.ErrArg {
				t.Errorf("%d: write %d: got %v, %d", i, k, got, e)
			}
		}
		if sum, e := sha.Done(s); sum != (api.Key{}) || e != api.ErrArg {
			t.Errorf("%d: done: got %x, %d", i, sum, e)
		}
	}
}

func TestWriteNothing(t *testing.T) {
	for i, s := range mayBe() {
		for k, parts := range [][][]byte{nil, {nil}, {{}, nil, {}}} {
			if got, e := sha.Write(s, parts...); !sha.Same(got, s) || e != api.OK {
				t.Errorf("%d, %d: got %v, %d", i, k, got, e)
			}
		}
	}
}

// What is not done has the library's words, and just the bytes behind the last whole block.
func TestWriteHolds(t *testing.T) {
	b := filled(400)
	for n := range b {
		s, e := sha.Write(sha.New(), b[:n])
		if s.N != uint64(n) || !bytes.Equal(s.Rest, b[n-n%64:n]) || e != api.OK || sha.Check(s) != api.OK {
			t.Fatalf("%d bytes: got %v, %d", n, s, e)
		}
		h := sha256.New()
		h.Write(b[:n-n%64])
		held, err := h.(encoding.BinaryMarshaler).MarshalBinary()
		whole := api.Sha{H: s.H, N: uint64(n - n%64)}
		if err != nil || !bytes.Equal(held, marshaled(whole)) {
			t.Errorf("%d bytes: words are %x", n, s.H)
		}
	}
}

func TestWriteTooLong(t *testing.T) {
	for _, left := range []int{0, 1, 63, 64, 65, 200} {
		n := uint64(api.MaxSha - left)
		s := api.Sha{H: [8]uint32{3: 9}, N: n, Rest: filled(int(n % 64))}
		b := filled(left + 1)
		got, e := sha.Write(s, b[:left])
		if got.N != api.MaxSha || len(got.Rest) != 0 || e != api.OK || sha.Check(got) != api.OK {
			t.Errorf("%d left, as many: got %v, %d", left, got, e)
		}
		for i, parts := range [][][]byte{{b}, {b[:left], b[left:]}, {nil, b[:1], b[1:], nil}, {b, b}, {filled(1000)}} {
			if got, e := sha.Write(s, parts...); !isZero(got) || e != api.ErrLong {
				t.Errorf("%d left, %d: got %v, %d", left, i, got, e)
			}
		}
	}
}

// Parts that share their bytes come to more than may be taken; nothing is summed up ahead of that.
func TestWriteTooLongFromNothing(t *testing.T) {
	part := make([]byte, 1<<25)
	parts := slices.Repeat([][]byte{part}, 1<<15)
	for _, s := range []api.Sha{sha.New(), written(t, []byte{1})} {
		if got, e := sha.Write(s, append(parts, []byte{1})...); !isZero(got) || e != api.ErrLong {
			t.Errorf("behind %d: got %v, %d", s.N, got, e)
		}
	}
}

func TestDone(t *testing.T) {
	for i, s := range mayBe() {
		want := doneByLibrary(t, s)
		for range 2 {
			if sum, e := sha.Done(s); sum != want || e != api.OK {
				t.Errorf("%d: got %x, %d", i, sum, e)
			}
		}
	}
	for n := range uint64(130) {
		s := api.Sha{H: [8]uint32{5, 5}, N: 1<<39 + n, Rest: filled(int(n % 64))}
		if sum, e := sha.Done(s); sum != doneByLibrary(t, s) || e != api.OK {
			t.Errorf("%d: got %x, %d", s.N, sum, e)
		}
	}
}

// Bytes that are taken behind what was done go behind what was taken, not behind the padding.
func TestWriteBehindDone(t *testing.T) {
	s := written(t, []byte("ab"))
	if sum, e := sha.Done(s); sum != sha.Sum([]byte("ab")) || e != api.OK {
		t.Errorf("got %x, %d", sum, e)
	}
	s, _ = sha.Write(s, []byte("c"))
	if sum, e := sha.Done(s); sum != sha.Sum([]byte("abc")) || e != api.OK {
		t.Errorf("got %x, %d", sum, e)
	}
}

func TestSame(t *testing.T) {
	all := append(mayBe(), mayNotBe()...)
	for i, a := range all {
		twin := api.Sha{H: a.H, N: a.N, Rest: slices.Clone(a.Rest)}
		if !sha.Same(a, a) || !sha.Same(a, twin) {
			t.Errorf("%d is not the same as itself", i)
		}
		if len(a.Rest) == 0 && (!sha.Same(api.Sha{H: a.H, N: a.N}, api.Sha{H: a.H, N: a.N, Rest: []byte{}})) {
			t.Errorf("%d: nil and empty are two", i)
		}
		others := []api.Sha{{H: a.H, N: a.N + 1, Rest: a.Rest}, {H: a.H, N: a.N, Rest: append(slices.Clone(a.Rest), 0)}}
		for k := range a.H {
			other := a
			other.H[k] ^= 1 << (4 * k)
			others = append(others, other)
		}
		for k := range a.Rest {
			other := slices.Clone(a.Rest)
			other[k] ^= 128
			others = append(others, api.Sha{H: a.H, N: a.N, Rest: other})
		}
		if n := len(a.Rest); n > 0 {
			others = append(others, api.Sha{H: a.H, N: a.N, Rest: a.Rest[:n-1]}, api.Sha{H: a.H, N: a.N, Rest: a.Rest[1:]}, api.Sha{H: a.H, N: a.N})
		}
		for k, other := range others {
			if sha.Same(a, other) || sha.Same(other, a) {
				t.Errorf("%d is the same as its other one %d", i, k)
			}
		}
	}
}

// R2: what is handed in is not changed, room behind it or none, and what is answered shares nothing with it.
func TestNothingIsShared(t *testing.T) {
	room := filled(200)
	before := slices.Clone(room)
	s := api.Sha{H: firstWords, N: 10, Rest: room[:10]}
	parts := [][]byte{room[100:120], room[120:130]}
	got, e := sha.Write(s, parts...)
	sum, _ := sha.Done(s)
	sha.Sum(parts...)
	again, _ := sha.Write(s)
	if e != api.OK || !bytes.Equal(room, before) || len(parts) != 2 || !bytes.Equal(parts[0], before[100:120]) || s.N != 10 || s.H != firstWords {
		t.Fatalf("%d: what was handed in is now %v, %v", e, s, room)
	}
	clear(room)
	clear(parts)
	if !bytes.Equal(got.Rest, slices.Concat(before[:10], before[100:130])) || !bytes.Equal(again.Rest, before[:10]) {
		t.Errorf("what was answered is now %v, %v", got.Rest, again.Rest)
	}
	if done, _ := sha.Done(again); done != sum {
		t.Errorf("got %x, %x", done, sum)
	}
	for _, rest := range [][]byte{got.Rest, again.Rest} {
		for k := range rest[:cap(rest)] {
			rest[:cap(rest)][k] = 77
		}
	}
	if slices.Contains(room, 77) {
		t.Errorf("what was handed in is now %v", room)
	}
}

// Two texts written behind one sum do not write into each other, nor into what comes of it.
func TestWrittenTwice(t *testing.T) {
	s := written(t, []byte("ab"))
	one, _ := sha.Write(s, []byte("c"))
	two, _ := sha.Write(s, []byte("d"))
	more, _ := sha.Write(one, []byte("e"))
	for i, x := range []struct {
		s    api.Sha
		text string
	}{{s, "ab"}, {one, "abc"}, {two, "abd"}, {more, "abce"}} {
		if sum, e := sha.Done(x.s); sum != sha.Sum([]byte(x.text)) || e != api.OK {
			t.Errorf("%d: got %x, %d", i, sum, e)
		}
	}
}

// P2.3

// checkWays holds against one another what parts come to: at once, in one write, and one by one.
func checkWays(t *testing.T, all []byte, parts ...[]byte) {
	t.Helper()
	want := sha.Sum(all)
	if got := sha.Sum(parts...); got != want {
		t.Errorf("at once: %x", got)
	}
	at, e := sha.Write(sha.New(), all)
	if e != api.OK {
		t.Fatal(e)
	}
	one, e := sha.Write(sha.New(), parts...)
	if !sha.Same(one, at) || e != api.OK {
		t.Errorf("in one write: %v, %d", one, e)
	}
	many := written(t, parts...)
	if !sha.Same(many, at) || sha.Check(many) != api.OK {
		t.Errorf("one by one: %v", many)
	}
	if sum, e := sha.Done(many); sum != want || e != api.OK {
		t.Errorf("done: %x, %d", sum, e)
	}
}

func TestCutInThree(t *testing.T) {
	for _, n := range []int{0, 1, 63, 64, 65, 130, 200} {
		b := filled(n)
		for i := 0; i <= n; i += 1 + n/40 {
			for k := i; k <= n; k += 1 + n/40 {
				checkWays(t, b, b[:i], b[i:k], b[k:])
			}
		}
	}
}

func TestCutInSteps(t *testing.T) {
	b := filled(1500)
	for _, step := range []int{1, 2, 7, 31, 32, 63, 64, 65, 127, 128, 129, 1000} {
		checkWays(t, b, slices.Collect(slices.Chunk(b, step))...)
		checkWays(t, b, append([][]byte{nil, b[:step], {}}, slices.Collect(slices.Chunk(b[step:], step))...)...)
	}
}

func TestCutAtTheBound(t *testing.T) {
	s := api.Sha{H: [8]uint32{1, 2, 3, 4, 5, 6, 7, 8}, N: api.MaxSha - 100, Rest: filled(28)}
	b := filled(100)
	at, _ := sha.Write(s, b)
	for i := range b {
		one, e := sha.Write(s, b[:i])
		if e != api.OK {
			t.Fatal(e)
		}
		two, e := sha.Write(one, b[i:])
		if !sha.Same(two, at) || e != api.OK {
			t.Errorf("cut at %d: got %v, %d", i, two, e)
		}
	}
	if sum, e := sha.Done(at); sum != doneByLibrary(t, at) || e != api.OK {
		t.Errorf("got %x, %d", sum, e)
	}
}
