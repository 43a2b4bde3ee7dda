package sched_test

import (
	"bytes"
	"crypto/hkdf"
	"crypto/hmac"
	"crypto/sha256"
	"encoding/binary"
	"encoding/hex"
	"math"
	"slices"
	"testing"

	"coterie/api"
	"coterie/sched"
)

const last = 1 << 40

func filled(n int) []byte {
	b := make([]byte, n)
	for i := range b {
		b[i] = byte(i*7 + i>>8 + 1)
	}
	return b
}

func key(t *testing.T, s string) api.Key {
	t.Helper()
	b, err := hex.DecodeString(s)
	if err != nil || len(b) != 32 {
		t.Fatal(s)
	}
	return api.Key(b)
}

// texts are put together here: each one behind how long it is.
func texts(all ...[]byte) []byte {
	var b []byte
	for _, x := range all {
		b = append(binary.BigEndian.AppendUint16(b, uint16(len(x))), x...)
	}
	return b
}

// derived is what the library derives.
func derived(k api.Key, label string, context ...[]byte) api.Key {
	info := texts(append([][]byte{[]byte("coterie"), []byte(label)}, context...)...)
	b, err := hkdf.Expand(sha256.New, k[:], string(info), 32)
	if err != nil {
		panic(err)
	}
	return api.Key(b)
}

// mixed is the library's sum of one key with another one.
func mixed(k, text api.Key) api.Key {
	h := hmac.New(sha256.New, k[:])
	h.Write(text[:])
	return api.Key(h.Sum(nil))
}

func enteredByLibrary(joiner api.Key, n uint64, tree, hash api.Key) api.Epoch {
	secret := derived(joiner, "epoch", binary.BigEndian.AppendUint64(nil, n), tree[:], hash[:])
	return api.Epoch{
		N:       n,
		Init:    derived(secret, "init"),
		App:     derived(secret, "app"),
		Confirm: derived(secret, "confirm"),
		Member:  derived(secret, "member"),
		Hash:    hash,
	}
}

func hashedByLibrary(hash api.Key, text []byte) api.Key {
	sum := sha256.Sum256(text)
	return sha256.Sum256(slices.Concat(hash[:], sum[:]))
}

// keys are secrets and sums, whatever they come from.
func keys() []api.Key {
	return []api.Key{{}, {1}, {31: 1}, {31: 128}, api.Key(filled(32)), api.Key(bytes.Repeat([]byte{255}, 32))}
}

// numbers are those that an epoch may have: few, many, and where bytes are full.
func numbers() []uint64 {
	all := []uint64{0, 1, 2, 1000}
	for i := 8; i < 40; i += 8 {
		all = append(all, 1<<i-1, 1<<i, 1<<i+1)
	}
	return append(all, last/2, last-2, last-1, last)
}

// beyond are numbers that no epoch has.
func beyond() []uint64 {
	return []uint64{last + 1, last + 2, last * 2, 1 << 48, 1 << 63, math.MaxUint64 - 1, math.MaxUint64}
}

// epoch is one each of whose parts is another one, but none of which comes of another one.
func epoch(n uint64) api.Epoch {
	return api.Epoch{N: n, Init: api.Key{1}, App: api.Key{2}, Confirm: api.Key{3}, Member: api.Key{4}, Hash: api.Key{5}}
}

// epochs are such of each number, and some that were entered.
func epochs(t *testing.T) []api.Epoch {
	t.Helper()
	var all []api.Epoch
	for i, n := range numbers() {
		k := keys()[i%len(keys())]
		all = append(all, epoch(n), api.Epoch{N: n}, entered(t, k, n, api.Key{7}, k))
	}
	return all
}

func entered(t *testing.T, joiner api.Key, n uint64, tree, hash api.Key) api.Epoch {
	t.Helper()
	e, f := sched.Enter(joiner, n, tree, hash)
	if f != api.OK {
		t.Fatal(n, f)
	}
	return e
}

// flipped is the same key, but one bit.
func flipped(k api.Key, bit int) api.Key {
	k[bit/8] ^= 1 << (bit % 8)
	return k
}

// noEpoch asks that nothing is told, and why.
func noEpoch(t *testing.T, what string, got api.Epoch, f, want api.Errno) {
	t.Helper()
	if got != (api.Epoch{}) || f != want {
		t.Errorf("%s: got %v, %d, instead of %d", what, got, f, want)
	}
}

func noKey(t *testing.T, what string, got api.Key, f, want api.Errno) {
	t.Helper()
	if got != (api.Key{}) || f != want {
		t.Errorf("%s: got %x, %d, instead of %d", what, got, f, want)
	}
}

// P14.1

func TestCheck(t *testing.T) {
	for _, n := range numbers() {
		for _, e := range []api.Epoch{{N: n}, epoch(n)} {
			if f := sched.Check(e); f != api.OK {
				t.Errorf("%d: got %d", n, f)
			}
		}
	}
	for _, n := range beyond() {
		for _, e := range []api.Epoch{{N: n}, epoch(n)} {
			if f := sched.Check(e); f != api.ErrArg {
				t.Errorf("%d: got %d", n, f)
			}
		}
	}
}

// What another program's HMAC comes to.
func TestEnterKnown(t *testing.T) {
	rising, falling := api.Key{}, api.Key{}
	for i := range rising {
		rising[i], falling[i] = byte(i+1), byte(32-i)
	}
	full := api.Key(bytes.Repeat([]byte{255}, 32))
	for i, x := range []struct {
		joiner                     api.Key
		n                          uint64
		tree, hash                 api.Key
		init, app, confirm, member string
	}{
		{
			api.Key{}, 0, api.Key{}, api.Key{},
			"47aeaed569ba2784d9ae07837da43d00694a449ab7fad3fc249ecc012d326ab7",
			"ae874009bdd6cd56f3c5349d90c69b6db1c68778ce42f1fae7c7c7cd6fc41e22",
			"036fb3e7eb130ac0d2ba00400f6282727cffb664c77ca64bdbcec628f3d37a2e",
			"4a1893d0d2b8160d9aa08c5c99b7b893f9fe8dbabe71bbacfd123638b507d361",
		},
		{
			api.Key{1}, 5, api.Key{2}, api.Key{3},
			"18a943a377bda476713e48f8e348dc843d9d9eb5f93e18f8b18ccaefc708be02",
			"fab3c2e4df339f351253ab4aa92ddb3e907738d5dcd533af4f608f7fa0f6a7f4",
			"7da9add763f6fd829d449134f02074ffe67f3ea69ce43d67746fee86878323b2",
			"4cf62c2d562edab949a5abd39d7ee82f63fba549d16672aa160daf1e64180d0a",
		},
		{
			rising, 258, falling, full,
			"4565f872ee2c754c2e3add4190079ae8a6ab831f77c1588e0247e6d1f9449d1b",
			"732e0416d683abca74ed5fed2964170604ae070627fc0376386b209d6041e27a",
			"d835dbff3fe6c77bc34dd9e2fa485df68118db69ad72a66e13dea11d14f97bba",
			"5084bb6ea0c9812b33e22979523a9a4991ac88d1bb7c1ae286c94e8edf3cca85",
		},
		{
			api.Key{1}, last, api.Key{2}, api.Key{3},
			"025f7a8590ec28a30ca9a5211db00e33a4691e8532c261e5d2d5ef4f60de5891",
			"a09ebc73415491b87c183c0a931c040a863be183a8e171f74863a9aff6d5c3ab",
			"d9cc0fd515b3749fba6a805ea4febe011c3c7b4af95fee33a0b5120740d65e15",
			"f49ff81a8c6813c81c7a50789e2150690d551da898f4b8aca48b0b0edc722da8",
		},
	} {
		want := api.Epoch{N: x.n, Init: key(t, x.init), App: key(t, x.app), Confirm: key(t, x.confirm), Member: key(t, x.member), Hash: x.hash}
		if got, f := sched.Enter(x.joiner, x.n, x.tree, x.hash); got != want || f != api.OK {
			t.Errorf("%d: got %x, %d", i, got, f)
		}
	}
}

func TestEnter(t *testing.T) {
	for _, n := range numbers() {
		for i, joiner := range keys() {
			for _, tree := range keys() {
				hash := keys()[(i+int(n%5))%len(keys())]
				got, f := sched.Enter(joiner, n, tree, hash)
				if got != enteredByLibrary(joiner, n, tree, hash) || f != api.OK {
					t.Fatalf("%x, %d, %x, %x: got %x, %d", joiner, n, tree, hash, got, f)
				}
				if f := sched.Check(got); f != api.OK {
					t.Fatalf("%d: what was entered may not be: %d", n, f)
				}
			}
		}
	}
}

// All that is handed in counts, each bit of it, for each of the secrets, none of which is another one.
func TestEnterApart(t *testing.T) {
	met := map[api.Key]string{}
	see := func(what string, e api.Epoch) {
		for _, k := range []api.Key{e.Init, e.App, e.Confirm, e.Member} {
			if was, is := met[k]; is {
				t.Errorf("%s: a secret is one of %s", what, was)
			}
			met[k] = what
		}
	}
	one, two, three := api.Key{1}, api.Key{2}, api.Key{3}
	for _, k := range []api.Key{one, two, three} {
		met[k] = "what was handed in"
	}
	see("the first one", entered(t, one, 5, two, three))
	for bit := range 256 {
		see("another joiner's secret", entered(t, flipped(one, bit), 5, two, three))
		see("another tree's sum", entered(t, one, 5, flipped(two, bit), three))
		see("another hash", entered(t, one, 5, two, flipped(three, bit)))
	}
	for bit := range 40 {
		see("another number", entered(t, one, 5^1<<bit, two, three))
	}
	see("what was handed in, turned", entered(t, one, 5, three, two))
	see("what was handed in, turned", entered(t, two, 5, one, three))
	see("what was handed in, turned", entered(t, three, 5, two, one))
}

func TestEnterBeyond(t *testing.T) {
	for _, n := range beyond() {
		for _, k := range keys() {
			got, f := sched.Enter(k, n, k, k)
			noEpoch(t, "beyond", got, f, api.ErrArg)
		}
	}
}

// P14.2

// What another program's HMAC comes to.
func TestJoinerKnown(t *testing.T) {
	e := entered(t, api.Key{1}, 5, api.Key{2}, api.Key{3})
	for i, x := range []struct {
		commit api.Key
		want   string
	}{
		{api.Key{9}, "f34adac34515bc7190afec5d55a567ed487f25d13669720a4b80e27a81468b85"},
		{api.Key{}, "bca5fcf3d8464d709fe51c2ef6451fdddd963c1a94174ef00ddf4d3707968ada"},
	} {
		if got, f := sched.Joiner(e, x.commit); got != key(t, x.want) || f != api.OK {
			t.Errorf("%d: got %x, %d", i, got, f)
		}
	}
}

// The last epoch tells a joiner's secret too.
func TestJoiner(t *testing.T) {
	for _, e := range epochs(t) {
		for _, commit := range keys() {
			if got, f := sched.Joiner(e, commit); got != mixed(e.Init, commit) || f != api.OK {
				t.Errorf("%v, %x: got %x, %d", e, commit, got, f)
			}
		}
	}
}

// A joiner's secret hangs on Init and on the commit's, and on nothing else of the epoch.
func TestJoinerApart(t *testing.T) {
	e, commit := epoch(5), api.Key{9}
	was, _ := sched.Joiner(e, commit)
	met := map[api.Key]bool{was: true, e.Init: true, commit: true}
	see := func(what string, e api.Epoch, commit api.Key) {
		k, f := sched.Joiner(e, commit)
		if met[k] || f != api.OK {
			t.Errorf("%s: got %x, %d, as before", what, k, f)
		}
		met[k] = true
	}
	for bit := range 256 {
		other := e
		other.Init = flipped(e.Init, bit)
		see("another Init", other, commit)
		see("another commit's secret", e, flipped(commit, bit))
	}
	see("Init and the commit's secret, turned", api.Epoch{N: 5, Init: commit}, e.Init)
	for i, other := range []api.Epoch{{N: 5, Init: e.Init}, {N: 9, Init: e.Init, App: api.Key{7}, Confirm: api.Key{7}, Member: api.Key{7}, Hash: api.Key{7}}} {
		if k, f := sched.Joiner(other, commit); k != was || f != api.OK {
			t.Errorf("%d: got %x, %d, instead of %x", i, k, f, was)
		}
	}
}

// What another program's sums come to.
func TestHashKnown(t *testing.T) {
	for i, x := range []struct {
		hash api.Key
		text []byte
		want string
	}{
		{api.Key{3}, nil, "56a0a484d064944be6b27f449924676816646764232f9903b323f15c49332120"},
		{api.Key{3}, []byte{}, "56a0a484d064944be6b27f449924676816646764232f9903b323f15c49332120"},
		{api.Key{3}, []byte("text"), "b5f72b8e9a2a8e5968189edc57c427456af55f34ec8960a56420160b7c525639"},
		{api.Key{3}, make([]byte, api.MaxBytes), "08227c702f0db8b5b8b1580341710b95da5437a51c90698b2465f166191b75ac"},
		{api.Key{}, nil, "1c9ecec90e28d2461650418635878a5c91e49f47586ecf75f2b0cbb94e897112"},
	} {
		for _, n := range []uint64{0, 5, last} {
			if got, f := sched.Hash(api.Epoch{N: n, Init: api.Key{8}, Hash: x.hash}, x.text); got != key(t, x.want) || f != api.OK {
				t.Errorf("%d, %d: got %x, %d", i, n, got, f)
			}
		}
	}
}

func TestHash(t *testing.T) {
	b := filled(300)
	for _, e := range epochs(t) {
		for _, long := range []int{0, 1, 31, 32, 33, 63, 64, 65, 255, 256, 300} {
			if got, f := sched.Hash(e, b[:long]); got != hashedByLibrary(e.Hash, b[:long]) || f != api.OK {
				t.Errorf("%v, %d bytes: got %x, %d", e, long, got, f)
			}
		}
	}
}

func TestHashAtTheBound(t *testing.T) {
	b := filled(api.MaxBytes * 2)
	for _, long := range []int{api.MaxText, api.MaxText + 1, api.MaxBytes - 1, api.MaxBytes} {
		if got, f := sched.Hash(epoch(1), b[:long]); got != hashedByLibrary(api.Key{5}, b[:long]) || f != api.OK {
			t.Errorf("%d bytes: got %x, %d", long, got, f)
		}
	}
	for _, long := range []int{api.MaxBytes + 1, api.MaxBytes + 2, api.MaxBytes * 2} {
		for _, n := range []uint64{0, 1, last} {
			got, f := sched.Hash(epoch(n), b[:long])
			noKey(t, "too long", got, f, api.ErrLong)
		}
	}
}

// What led to the next epoch hangs on what led to this one, and on the text, and on nothing else of the epoch.
func TestHashApart(t *testing.T) {
	e, text := epoch(5), filled(40)
	was, _ := sched.Hash(e, text)
	met := map[api.Key]bool{was: true}
	see := func(what string, e api.Epoch, text []byte) {
		k, f := sched.Hash(e, text)
		if met[k] || f != api.OK {
			t.Errorf("%s: got %x, %d, as before", what, k, f)
		}
		met[k] = true
	}
	for bit := range 256 {
		other := e
		other.Hash = flipped(e.Hash, bit)
		see("another hash", other, text)
		more := slices.Clone(text)
		more[bit/8] ^= 1 << (bit % 8)
		see("another text", e, more)
	}
	for long := range text {
		see("a shorter text", e, text[:long])
	}
	see("a text with a 0 behind", e, append(slices.Clone(text), 0))
	see("another text", e, []byte{0})
	for i, other := range []api.Epoch{{N: 5, Hash: e.Hash}, {N: 9, Init: api.Key{7}, App: api.Key{7}, Confirm: api.Key{7}, Member: api.Key{7}, Hash: e.Hash}} {
		if k, f := sched.Hash(other, text); k != was || f != api.OK {
			t.Errorf("%d: got %x, %d, instead of %x", i, k, f, was)
		}
	}
}

// P14.3

// What another program's HMAC comes to.
func TestNextKnown(t *testing.T) {
	e := entered(t, api.Key{1}, 5, api.Key{2}, api.Key{3})
	want := api.Epoch{
		N:       6,
		Init:    key(t, "f72e20f3c0a6c0e7d655cb3085b7787b9697700f742f2382425925bd35cc5934"),
		App:     key(t, "915c7e206c27f189bb2d4f0c41f66fceea1bbc3942c4f98e7ba86d978fbb7f9d"),
		Confirm: key(t, "f4cde6acb89a204590100bce279f3bd083437f0d62746ef6610cb641126c04c7"),
		Member:  key(t, "ac9dbd2115d7a5921e61b770e2f84ed12f47c5d8e46b697db9a58092811cf549"),
		Hash:    key(t, "b5f72b8e9a2a8e5968189edc57c427456af55f34ec8960a56420160b7c525639"),
	}
	if got, f := sched.Next(e, api.Key{9}, api.Key{4}, []byte("text")); got != want || f != api.OK {
		t.Errorf("got %x, %d", got, f)
	}
}

// Ten epochs, one behind the other, come to what another program's come to.
func TestNextOfMany(t *testing.T) {
	e := entered(t, api.Key{}, 0, api.Key{}, api.Key{})
	for i := range 10 {
		next, f := sched.Next(e, api.Key{byte(i)}, api.Key{byte(100 + i)}, bytes.Repeat([]byte("a"), i))
		if next.N != e.N+1 || f != api.OK {
			t.Fatalf("behind epoch %d comes %d, %d", e.N, next.N, f)
		}
		e = next
	}
	want := api.Epoch{
		N:       10,
		Init:    key(t, "6dcd1f7c3ebd331558581639c439ecd2b3d1b2e3a2aac6d33f4de4f2e6390124"),
		App:     key(t, "e5de0a5a77a6e1eeb0bb612252f50faf2e18b904d0947f0743265660eb9334b8"),
		Confirm: key(t, "2756fca734f513ae3e3836345a0e6fe73c3a5735ce1172aed110bcc45b566c1c"),
		Member:  key(t, "bab1902fb90a6f1ae3d66477277af4cfa6d73dcac5362fd94d0e603d83bcf226"),
		Hash:    key(t, "8f38d175bd1173cc16b50de7e2c5cc6370f2beb34ccab3f39774fd5dab60d7bf"),
	}
	if e != want {
		t.Errorf("got %x", e)
	}
}

func TestNext(t *testing.T) {
	b := filled(300)
	for i, e := range epochs(t) {
		if e.N == last {
			continue
		}
		for j, commit := range keys() {
			tree, text := keys()[(i+j)%len(keys())], b[:(i*31+j*7)%300]
			want := enteredByLibrary(mixed(e.Init, commit), e.N+1, tree, hashedByLibrary(e.Hash, text))
			if got, f := sched.Next(e, commit, tree, text); got != want || f != api.OK {
				t.Fatalf("%v, %x, %x, %x: got %x, %d", e, commit, tree, text, got, f)
			}
		}
	}
}

// Behind the last epoch but one comes the last one, behind which comes none.
func TestNextAtTheEnd(t *testing.T) {
	e, f := sched.Next(epoch(last-1), api.Key{6}, api.Key{7}, nil)
	if e.N != last || f != api.OK || sched.Check(e) != api.OK {
		t.Fatalf("got %v, %d", e, f)
	}
	// That there is no room is told ahead of what is too long.
	for _, text := range [][]byte{nil, filled(5), make([]byte, api.MaxBytes), make([]byte, api.MaxBytes+1)} {
		for _, e := range []api.Epoch{e, epoch(last), {N: last}} {
			got, f := sched.Next(e, api.Key{6}, api.Key{7}, text)
			noEpoch(t, "no room", got, f, api.ErrFull)
		}
	}
}

func TestNextTooLong(t *testing.T) {
	b := filled(api.MaxBytes * 2)
	for _, n := range []uint64{0, 1, last - 1} {
		want := enteredByLibrary(mixed(api.Key{1}, api.Key{6}), n+1, api.Key{7}, hashedByLibrary(api.Key{5}, b[:api.MaxBytes]))
		if got, f := sched.Next(epoch(n), api.Key{6}, api.Key{7}, b[:api.MaxBytes]); got != want || f != api.OK {
			t.Errorf("%d: got %v, %d", n, got, f)
		}
		for _, long := range []int{api.MaxBytes + 1, api.MaxBytes + 2, api.MaxBytes * 2} {
			got, f := sched.Next(epoch(n), api.Key{6}, api.Key{7}, b[:long])
			noEpoch(t, "too long", got, f, api.ErrLong)
		}
	}
}

// What comes hangs on the old epoch's Init, Hash and number alone, and on all that is handed in beside.
func TestNextApart(t *testing.T) {
	e, commit, tree, text := epoch(5), api.Key{6}, api.Key{7}, filled(40)
	was, _ := sched.Next(e, commit, tree, text)
	for i, change := range []func(){
		func() { e.N++ },
		func() { e.Init[31]++ },
		func() { e.Hash[31]++ },
		func() { commit[31]++ },
		func() { tree[31]++ },
		func() { text[39]++ },
		func() { text = text[:39] },
	} {
		change()
		got, f := sched.Next(e, commit, tree, text)
		if got.Init == was.Init || got.App == was.App || got.Confirm == was.Confirm || got.Member == was.Member || f != api.OK {
			t.Errorf("change %d: got %x, %d", i, got, f)
		}
		was = got
	}
	e.App, e.Confirm, e.Member = api.Key{90}, api.Key{91}, api.Key{92}
	if got, f := sched.Next(e, commit, tree, text); got != was || f != api.OK {
		t.Errorf("got %x, %d, instead of %x", got, f, was)
	}
}

// What another program's HMAC comes to.
func TestTagKnown(t *testing.T) {
	e := entered(t, api.Key{1}, 5, api.Key{2}, api.Key{3})
	if got, f := sched.Tag(e); got != key(t, "4977f2b785bc109111acc234819ea90ca6d968d94393c2e31dacbf070afc7720") || f != api.OK {
		t.Errorf("got %x, %d", got, f)
	}
	e, _ = sched.Next(e, api.Key{9}, api.Key{4}, []byte("text"))
	if got, f := sched.Tag(e); got != key(t, "dc4869b5f2f1bbdf06a1da1514f840b9ed479bd4556a7b4cf5626b48426645a4") || f != api.OK {
		t.Errorf("then: got %x, %d", got, f)
	}
}

func TestTag(t *testing.T) {
	for _, e := range epochs(t) {
		if got, f := sched.Tag(e); got != mixed(e.Confirm, e.Hash) || f != api.OK {
			t.Errorf("%v: got %x, %d", e, got, f)
		}
	}
}

// An epoch's tag hangs on Confirm and Hash, and on nothing else of it.
func TestTagApart(t *testing.T) {
	e := epoch(5)
	was, _ := sched.Tag(e)
	met := map[api.Key]bool{was: true, e.Confirm: true, e.Hash: true}
	see := func(what string, e api.Epoch) {
		k, f := sched.Tag(e)
		if met[k] || f != api.OK {
			t.Errorf("%s: got %x, %d, as before", what, k, f)
		}
		met[k] = true
	}
	for bit := range 256 {
		one, two := e, e
		one.Confirm, two.Hash = flipped(e.Confirm, bit), flipped(e.Hash, bit)
		see("another Confirm", one)
		see("another Hash", two)
	}
	see("Confirm and Hash, turned", api.Epoch{N: 5, Confirm: e.Hash, Hash: e.Confirm})
	for i, other := range []api.Epoch{{Confirm: e.Confirm, Hash: e.Hash}, {N: last, Init: api.Key{7}, App: api.Key{7}, Confirm: e.Confirm, Member: api.Key{7}, Hash: e.Hash}} {
		if k, f := sched.Tag(other); k != was || f != api.OK {
			t.Errorf("%d: got %x, %d, instead of %x", i, k, f, was)
		}
	}
}

// An epoch that may not be is told ahead of what is too long.
func TestWhatMayNotBe(t *testing.T) {
	for _, n := range beyond() {
		for _, e := range []api.Epoch{{N: n}, epoch(n)} {
			k, f := sched.Joiner(e, api.Key{6})
			noKey(t, "joiner", k, f, api.ErrArg)
			k, f = sched.Tag(e)
			noKey(t, "tag", k, f, api.ErrArg)
			for _, text := range [][]byte{nil, filled(5), make([]byte, api.MaxBytes+1)} {
				k, f := sched.Hash(e, text)
				noKey(t, "hash", k, f, api.ErrArg)
				got, f := sched.Next(e, api.Key{6}, api.Key{7}, text)
				noEpoch(t, "next", got, f, api.ErrArg)
			}
		}
	}
}

// P14.4

// Who is told the joiner's secret, and what led to the epoch, comes to where who knows the one before comes to, and both go on alike.
func TestJoinerComesToTheSame(t *testing.T) {
	b := filled(1000)
	for i, e := range epochs(t) {
		if e.N >= last-5 {
			continue
		}
		for j := range 5 {
			commit, tree, text := keys()[(i+j)%len(keys())], keys()[(i+2*j)%len(keys())], b[i*5+j:i*9+j*20]
			joiner, f := sched.Joiner(e, commit)
			if f != api.OK {
				t.Fatal(f)
			}
			// All that a joiner has of the one before is its number and its Hash.
			hash, f := sched.Hash(api.Epoch{N: e.N, Hash: e.Hash}, text)
			if f != api.OK {
				t.Fatal(f)
			}
			in, f := sched.Enter(joiner, e.N+1, tree, hash)
			if f != api.OK {
				t.Fatal(f)
			}
			next, f := sched.Next(e, commit, tree, text)
			if next != in || f != api.OK {
				t.Fatalf("%d, %d: got %x, %d, instead of %x", i, j, next, f, in)
			}
			one, _ := sched.Tag(in)
			if two, f := sched.Tag(next); one != two || f != api.OK {
				t.Errorf("%d, %d: tags are %x and %x, %d", i, j, one, two, f)
			}
			e = in
		}
	}
}

// Who knows the one before without the commit's secret, or the commit's without the one before, comes to another one.
func TestOthersComeToAnotherOne(t *testing.T) {
	e, commit := entered(t, api.Key{1}, 5, api.Key{2}, api.Key{3}), api.Key{9}
	was, f := sched.Next(e, commit, api.Key{4}, []byte("text"))
	if f != api.OK {
		t.Fatal(f)
	}
	tag, _ := sched.Tag(was)
	other := e
	other.Init = api.Key{}
	for i, x := range []struct {
		e      api.Epoch
		commit api.Key
	}{{e, api.Key{}}, {e, e.Init}, {e, e.Member}, {other, commit}} {
		got, f := sched.Next(x.e, x.commit, api.Key{4}, []byte("text"))
		if got.Init == was.Init || got.App == was.App || got.Confirm == was.Confirm || got.Member == was.Member || got.Hash != was.Hash || f != api.OK {
			t.Errorf("%d: got %x, %d", i, got, f)
		}
		if k, f := sched.Tag(got); k == tag || f != api.OK {
			t.Errorf("%d: the tag is the same, %d", i, f)
		}
	}
}

// R2: a text is not changed, room behind it or none, and what was answered does not hang on it.
func TestNothingIsShared(t *testing.T) {
	b := filled(200)
	was := slices.Clone(b)
	e := epoch(5)
	hash, _ := sched.Hash(e, b[:100])
	next, _ := sched.Next(e, api.Key{6}, api.Key{7}, b[:100])
	if !bytes.Equal(b, was) || e != epoch(5) {
		t.Fatal("what was handed in was changed")
	}
	wasHash, wasNext := hash, next
	clear(b)
	if hash != wasHash || next != wasNext || next.Hash != hash {
		t.Errorf("what was answered is now %x, %x", hash, next)
	}
}

// Nothing is kept from call to call, whatever was refused between.
func TestAlwaysTheSame(t *testing.T) {
	e, text := epoch(5), []byte("text")
	was, _ := sched.Next(e, api.Key{6}, api.Key{7}, text)
	for range 3 {
		sched.Next(epoch(last), api.Key{1}, api.Key{2}, text)
		sched.Next(epoch(last+1), api.Key{1}, api.Key{2}, text)
		sched.Hash(e, make([]byte, api.MaxBytes+1))
		sched.Enter(api.Key{8}, last+1, api.Key{9}, api.Key{10})
		sched.Enter(api.Key{8}, 9, api.Key{9}, api.Key{10})
		if got, f := sched.Next(e, api.Key{6}, api.Key{7}, text); got != was || f != api.OK {
			t.Errorf("got %x, %d, instead of %x", got, f, was)
		}
	}
}
