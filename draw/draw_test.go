package draw_test

import (
	"bytes"
	"crypto/hkdf"
	"crypto/sha256"
	"encoding/binary"
	"encoding/hex"
	"math"
	"slices"
	"strings"
	"testing"

	"coterie/api"
	"coterie/draw"
)

const most = 1 << 32

func filled(n int) []byte {
	b := make([]byte, n)
	for i := range b {
		b[i] = byte(i*7 + i>>8 + 1)
	}
	return b
}

func key(t *testing.T, text string) api.Key {
	t.Helper()
	b, err := hex.DecodeString(text)
	if err != nil || len(b) != 32 {
		t.Fatal(text, err)
	}
	return api.Key(b)
}

// texts are put together here: each one behind how long it is.
func texts(all ...[]byte) []byte {
	var b []byte
	for _, x := range all {
		b = append(binary.BigEndian.AppendUint16(b, uint16(len(x))), x...)
	}
	return b
}

func seedByLibrary(b ...[]byte) api.Key { return sha256.Sum256(texts(b...)) }

// derived is a key that the library derives, by a label, a count, and more texts.
func derived(seed api.Key, label string, n uint64, more ...[]byte) api.Key {
	all := [][]byte{[]byte("coterie"), []byte(label), binary.BigEndian.AppendUint64(nil, n)}
	b, err := hkdf.Expand(sha256.New, seed[:], string(texts(append(all, more...)...)), 32)
	if err != nil {
		panic(err)
	}
	return api.Key(b)
}

func drawnByLibrary(seed api.Key, n uint64) api.Key { return derived(seed, "draw", n) }

func forkedByLibrary(seed api.Key, n uint64, label string) api.Key {
	return derived(seed, "fork", n, []byte(label))
}

// seeds are sources' seeds, whatever they come from.
func seeds() []api.Key {
	return []api.Key{{}, {1}, {31: 1}, {31: 128}, api.Key(filled(32)), api.Key(bytes.Repeat([]byte{255}, 32)), seedByLibrary()}
}

// counts are how many were drawn: few, many, and where bytes are full.
func counts() []uint64 {
	all := []uint64{0, 1, 2, 3, 1000}
	for i := 8; i < 32; i += 8 {
		all = append(all, 1<<i-1, 1<<i, 1<<i+1)
	}
	return append(all, most/2, most-2, most-1)
}

// beyond are more than may be drawn.
func beyond() []uint64 {
	return []uint64{most + 1, most + 2, most * 2, 1 << 40, 1 << 63, math.MaxUint64}
}

// labels are those of forks, none of which is like another one.
func labels() []string {
	return []string{"", "x", "y", "xx", "draw", "fork", "coterie", "\x00", "\xff\xfe", "größer", strings.Repeat("a", api.MaxText)}
}

// noNext asks that a refused Next, or Many, tells nothing else.
func noNext(t *testing.T, what string, k api.Key, d api.Draws, e, want api.Errno) {
	t.Helper()
	if k != (api.Key{}) || d != (api.Draws{}) || e != want {
		t.Errorf("%s: got %x, %v, %d, instead of %d", what, k, d, e, want)
	}
}

func noMany(t *testing.T, what string, l []api.Key, d api.Draws, e, want api.Errno) {
	t.Helper()
	if len(l) != 0 || d != (api.Draws{}) || e != want {
		t.Errorf("%s: got %d keys, %v, %d, instead of %d", what, len(l), d, e, want)
	}
}

func source(t *testing.T, b ...[]byte) api.Draws {
	t.Helper()
	d, e := draw.New(b...)
	if e != api.OK {
		t.Fatal(e)
	}
	return d
}

// P9.1

// What another program's sum of texts comes to.
func TestNewKnown(t *testing.T) {
	for i, x := range []struct {
		b    [][]byte
		want string
	}{
		{nil, "e3b0c44298fc1c149afbf4c8996fb92427ae41e4649b934ca495991b7852b855"},
		{[][]byte{nil}, "96a296d224f285c67bee93c30f8a309157f0daa35dc5b87e410b78630a09cfc7"},
		{[][]byte{[]byte("ab"), nil}, "2dc071edeb82905626fcc5b924dea44d1402b1342aba6821dc145343a140cc31"},
		{[][]byte{[]byte("coterie")}, "dc08b18b755c3a3fe535e5b5d9c7baa2861a03296bb39bb4c6a73df9f4f59ef6"},
		{[][]byte{[]byte("a"), []byte("b")}, "e168af95ee8e070a78b202450c429f92ec947e29cca00c15df2058003ea0e6c7"},
		{[][]byte{make([]byte, 65535)}, "a3ed4df47baa297ddfda8323448f2c3a2571d83e4df98659ea6378adfd036ad0"},
	} {
		if d, e := draw.New(x.b...); d != (api.Draws{Seed: key(t, x.want)}) || e != api.OK {
			t.Errorf("%d: got %x, %d, %d", i, d.Seed, d.N, e)
		}
	}
}

func TestNew(t *testing.T) {
	b := filled(api.MaxText)
	for i, x := range [][][]byte{
		{{}},
		{b[:1]},
		{b[:255]},
		{b[:256]},
		{b},
		{b, nil, b[1:], b},
		{nil, b[:64], nil, b[:3]},
		slices.Repeat([][]byte{{7}}, 1000),
		slices.Repeat([][]byte{b}, 40), // more than a text at all has
	} {
		if d, e := draw.New(x...); d != (api.Draws{Seed: seedByLibrary(x...)}) || e != api.OK {
			t.Errorf("%d: got %v, %d", i, d, e)
		}
	}
}

// Each text counts, where it begins and where it ends.
func TestNewApart(t *testing.T) {
	was := map[api.Draws]int{}
	for i, x := range [][][]byte{
		nil,
		{nil},
		{nil, nil},
		{[]byte("ab")},
		{[]byte("a"), []byte("b")},
		{[]byte("b"), []byte("a")},
		{nil, []byte("ab")},
		{[]byte("ab"), nil},
		{{0}},
		{{0, 0}},
		{{0, 0, 0, 0}},
	} {
		d := source(t, x...)
		if at, is := was[d]; is {
			t.Errorf("%d and %d are the same", at, i)
		}
		was[d] = i
	}
}

func TestNewTooLong(t *testing.T) {
	long := make([]byte, api.MaxText+1)
	for i, x := range [][][]byte{
		{long},
		{long, nil},
		{nil, long},
		{long[1:], long, long[1:]},
		{make([]byte, 1<<20+1)},
		{make([]byte, 1<<17)}, // its length is 0 in two bytes
	} {
		if d, e := draw.New(x...); d != (api.Draws{}) || e != api.ErrLong {
			t.Errorf("%d: got %v, %d", i, d, e)
		}
	}
}

func TestCheck(t *testing.T) {
	for _, seed := range seeds() {
		for _, n := range append(counts(), most) {
			if e := draw.Check(api.Draws{Seed: seed, N: n}); e != api.OK {
				t.Errorf("%d: got %d", n, e)
			}
		}
		for _, n := range beyond() {
			if e := draw.Check(api.Draws{Seed: seed, N: n}); e != api.ErrArg {
				t.Errorf("%d: got %d", n, e)
			}
		}
	}
}

// P9.2

// What another program's HMAC comes to.
func TestNextKnown(t *testing.T) {
	seed := source(t, []byte("ab"), nil).Seed
	for _, x := range []struct {
		n    uint64
		want string
	}{
		{0, "13fc4a7c7bd4ecab68c38cc8d44d38b199c12fd3379e9a3e30d0fcf2e2673ea0"},
		{1, "c13637fb970bd898d7e02f04f19fe726775183be4a42b5ff5844642b8e136eec"},
		{2, "9820cec4ef86b1ffeedf8bfe1c855521ddab5ae2ce08ecede030d6ca32fdcf1a"},
		{255, "0be77142a878060e54d2a4d2f0adc4c4535b96304b60563fe9a032fc84e69906"},
		{256, "17f37f5301d9d237efa9e9338d03885d74ca2c7468b73daa526033a7da83d0f0"},
		{most - 2, "a662fc1961793074b84b10a8d19b6f8937fb2f5d5651fc3f773af6b266f11a9a"},
		{most - 1, "07f1d97e6af71e25520367cc78f91dcaca498cbd1a70f64225b826f9127503d4"},
	} {
		k, d, e := draw.Next(api.Draws{Seed: seed, N: x.n})
		if k != key(t, x.want) || d != (api.Draws{Seed: seed, N: x.n + 1}) || e != api.OK {
			t.Errorf("%d: got %x, %v, %d", x.n, k, d, e)
		}
	}
}

func TestNext(t *testing.T) {
	was := map[api.Key]bool{}
	for i, seed := range seeds() {
		for _, n := range counts() {
			k, d, e := draw.Next(api.Draws{Seed: seed, N: n})
			if k != drawnByLibrary(seed, n) || d != (api.Draws{Seed: seed, N: n + 1}) || e != api.OK {
				t.Errorf("%d, %d: got %x, %v, %d", i, n, k, d, e)
			}
			if was[k] {
				t.Errorf("%d, %d: this was drawn before", i, n)
			}
			was[k] = true
		}
	}
}

func TestNextRefused(t *testing.T) {
	for _, seed := range seeds() {
		k, d, e := draw.Next(api.Draws{Seed: seed, N: most})
		noNext(t, "all were drawn", k, d, e, api.ErrFull)
		for _, n := range beyond() {
			k, d, e := draw.Next(api.Draws{Seed: seed, N: n})
			noNext(t, "more were drawn", k, d, e, api.ErrArg)
		}
	}
}

func TestMany(t *testing.T) {
	for i, seed := range seeds()[:3] {
		for _, from := range []uint64{0, 1, 250, 65530, most - 1000} {
			for _, n := range []int{0, 1, 2, 10, 999, 1000} {
				l, d, e := draw.Many(api.Draws{Seed: seed, N: from}, n)
				if len(l) != n || d != (api.Draws{Seed: seed, N: from + uint64(n)}) || e != api.OK {
					t.Fatalf("%d, %d from %d: got %d keys, %v, %d", i, n, from, len(l), d, e)
				}
				for j, k := range l {
					if k != drawnByLibrary(seed, from+uint64(j)) {
						t.Fatalf("%d, %d from %d: key %d is %x", i, n, from, j, k)
					}
				}
			}
		}
	}
}

func TestManyWrong(t *testing.T) {
	// What is asked wrongly is told, even if all were drawn.
	for _, from := range []uint64{0, 5, most - 1, most} {
		for _, n := range []int{-1, -1000, math.MinInt, 1001, 1002, 1 << 32, math.MaxInt} {
			l, d, e := draw.Many(api.Draws{Seed: api.Key{1}, N: from}, n)
			noMany(t, "as many as may not be", l, d, e, api.ErrArg)
		}
	}
	for _, from := range beyond() {
		for _, n := range []int{-1, 0, 1, 1000, 1001} {
			l, d, e := draw.Many(api.Draws{Seed: api.Key{1}, N: from}, n)
			noMany(t, "more were drawn", l, d, e, api.ErrArg)
		}
	}
}

// At the end just so many are left; of one more nothing is told, not even of those that are left.
func TestManyAtTheEnd(t *testing.T) {
	seed := api.Key{1}
	for _, left := range []int{0, 1, 2, 10, 999, 1000} {
		from := api.Draws{Seed: seed, N: most - uint64(left)}
		l, d, e := draw.Many(from, left)
		if len(l) != left || d != (api.Draws{Seed: seed, N: most}) || e != api.OK {
			t.Errorf("%d: got %d keys, %v, %d", left, len(l), d, e)
		}
		if left > 0 && l[left-1] != drawnByLibrary(seed, most-1) {
			t.Errorf("%d: the last one is %x", left, l[left-1])
		}
		for _, n := range []int{left + 1, left + 2, 1000} {
			if n > left && n <= 1000 {
				l, d, e := draw.Many(from, n)
				noMany(t, "more than are left", l, d, e, api.ErrFull)
			}
		}
	}
}

// P9.3

// What another program's HMAC comes to.
func TestForkKnown(t *testing.T) {
	seed := source(t, []byte("ab"), nil).Seed
	for _, x := range []struct {
		n     uint64
		label string
		want  string
	}{
		{0, "", "6334cbdfecfaea63dc910788a3a11232d238f3863a89eb0a5da846e8fa6bf688"},
		{0, "x", "ea1ddf0f8363deb759e396744243183f35a7cc1bbabff55cd7f40252876ee097"},
		{3, "x", "dfff90c3ae9e487cb14ac68234bc6c93fc932e538dea39c43148bd275616d4ba"},
		{most, "x", "ba809e98b87960fc4fa798abc976e6ad331781fbef11f01747078c54d589ba0a"},
		{0, "größer", "0c23363d7ce6cf237445ccbcfc6b62aa777025373036900eb681f49512e7c3ba"},
	} {
		if d, e := draw.Fork(api.Draws{Seed: seed, N: x.n}, x.label); d != (api.Draws{Seed: key(t, x.want)}) || e != api.OK {
			t.Errorf("%d, %q: got %x, %d, %d", x.n, x.label, d.Seed, d.N, e)
		}
	}
	d, e := draw.Fork(api.Draws{Seed: seed, N: 3}, "x")
	if e != api.OK {
		t.Fatal(e)
	}
	if k, _, e := draw.Next(d); k != key(t, "c053b01f57633d7fcec0f48775e6d80841900b1c237cac70ba72b917c024d749") || e != api.OK {
		t.Errorf("drawn of a fork: got %x, %d", k, e)
	}
	if d, e := draw.Fork(d, "x"); d != (api.Draws{Seed: key(t, "ae63c738f557236498f15b13f1ae1589d2011e12845fe1d0cc41d700c139c275")}) || e != api.OK {
		t.Errorf("a fork's fork: got %x, %d, %d", d.Seed, d.N, e)
	}
}

// A source of which all was drawn is forked too.
func TestFork(t *testing.T) {
	was := map[api.Key]bool{}
	for i, seed := range seeds() {
		for _, n := range append(counts(), most) {
			for _, label := range labels() {
				d, e := draw.Fork(api.Draws{Seed: seed, N: n}, label)
				if d != (api.Draws{Seed: forkedByLibrary(seed, n, label)}) || e != api.OK {
					t.Errorf("%d, %d, %d bytes: got %v, %d", i, n, len(label), d, e)
				}
				if was[d.Seed] {
					t.Errorf("%d, %d, %d bytes: this was forked before", i, n, len(label))
				}
				was[d.Seed] = true
			}
			if n < most && was[drawnByLibrary(seed, n)] {
				t.Errorf("%d, %d: a secret is a fork's seed", i, n)
			}
		}
	}
}

func TestForkTooLong(t *testing.T) {
	for i, label := range []string{
		strings.Repeat("a", api.MaxText+1),
		strings.Repeat("a", 1<<17),
		strings.Repeat("a", 1<<21),
		// It is bytes that count, not runes.
		strings.Repeat("ö", api.MaxText/2+1),
	} {
		for _, n := range []uint64{0, 1, most} {
			if d, e := draw.Fork(api.Draws{Seed: api.Key{1}, N: n}, label); d != (api.Draws{}) || e != api.ErrLong {
				t.Errorf("%d, %d: got %v, %d", i, n, d, e)
			}
		}
	}
}

func TestForkBeyond(t *testing.T) {
	for _, n := range beyond() {
		// That more were drawn is told ahead of what is too long.
		for _, label := range []string{"", "x", strings.Repeat("a", api.MaxText+1)} {
			if d, e := draw.Fork(api.Draws{Seed: api.Key{1}, N: n}, label); d != (api.Draws{}) || e != api.ErrArg {
				t.Errorf("%d, %d bytes: got %v, %d", n, len(label), d, e)
			}
		}
	}
}

// P9.4

func TestDrawnInParts(t *testing.T) {
	for i, seed := range seeds() {
		for _, from := range []uint64{0, 200, most - 60} {
			all, end, e := draw.Many(api.Draws{Seed: seed, N: from}, 60)
			if len(all) != 60 || e != api.OK {
				t.Fatal(len(all), e)
			}
			for _, part := range []int{1, 2, 7, 30, 59, 60} {
				var got []api.Key
				d := api.Draws{Seed: seed, N: from}
				for len(got) < len(all) {
					l, next, e := draw.Many(d, min(part, len(all)-len(got)))
					if e != api.OK {
						t.Fatal(e)
					}
					got, d = append(got, l...), next
				}
				if !slices.Equal(got, all) || d != end {
					t.Errorf("%d, from %d, by %d: other secrets", i, from, part)
				}
			}
		}
	}
}

// One by one, by none, and by some: what comes hangs on how many were drawn alone.
func TestDrawnOneByOne(t *testing.T) {
	first := source(t, []byte("one"))
	all, end, e := draw.Many(first, 50)
	if e != api.OK {
		t.Fatal(e)
	}
	d := first
	for i := 0; i < 50; {
		k, next, e := draw.Next(d)
		if k != all[i] || e != api.OK {
			t.Fatalf("%d: got %x, %d", i, k, e)
		}
		i, d = i+1, next
		if _, e := draw.Fork(d, "x"); e != api.OK {
			t.Fatal(e)
		}
		l, next, e := draw.Many(d, 0)
		if len(l) != 0 || next != d || e != api.OK {
			t.Fatalf("%d: got %d keys, %v, %d", i, len(l), next, e)
		}
		more := min(i%4, 50-i)
		l, next, e = draw.Many(d, more)
		if !slices.Equal(l, all[i:i+more]) || e != api.OK {
			t.Fatalf("%d: got %d keys, %d", i, len(l), e)
		}
		i, d = i+more, next
	}
	if d != end {
		t.Errorf("got %v, instead of %v", d, end)
	}
}

// Of one source the first secret is always the same: nothing is kept from call to call.
func TestAlwaysTheSame(t *testing.T) {
	a, b := source(t, []byte("same")), source(t, []byte("same"))
	was, _, _ := draw.Next(a)
	for range 3 {
		if _, _, e := draw.Many(b, 20); e != api.OK {
			t.Fatal(e)
		}
		if k, next, e := draw.Next(b); k != was || next != (api.Draws{Seed: a.Seed, N: 1}) || e != api.OK {
			t.Errorf("got %x, %v, %d", k, next, e)
		}
	}
	if k, _, _ := draw.Next(source(t, []byte("samf"))); k == was {
		t.Error("another source has the same secret")
	}
}

// R2: what is handed in is not changed, room behind it or none, and what is answered shares nothing with it.
func TestNothingIsShared(t *testing.T) {
	b := filled(1000)
	before := slices.Clone(b)
	parts := make([][]byte, 2, 5)
	parts[0], parts[1] = b[200:210], b[300:400]
	d := source(t, parts...)
	if !bytes.Equal(b, before) || !bytes.Equal(parts[0], before[200:210]) || !bytes.Equal(parts[1], before[300:400]) {
		t.Fatal("what was handed in was changed")
	}
	for _, p := range parts[:cap(parts)][2:] {
		if p != nil {
			t.Error("the room behind the texts was written into")
		}
	}
	clear(b)
	if d != (api.Draws{Seed: seedByLibrary(before[200:210], before[300:400])}) {
		t.Errorf("the source is now %v", d)
	}
	one, _, e := draw.Many(d, 10)
	if e != api.OK {
		t.Fatal(e)
	}
	two, _, _ := draw.Many(d, 10)
	was := slices.Clone(two)
	clear(one)
	if !slices.Equal(two, was) {
		t.Error("two answers share their secrets")
	}
	if again, _, _ := draw.Many(d, 10); !slices.Equal(again, was) {
		t.Error("other secrets are drawn now")
	}
}
