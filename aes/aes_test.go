package aes_test

import (
	"bytes"
	libaes "crypto/aes"
	"crypto/cipher"
	"encoding/binary"
	"encoding/hex"
	"math"
	"math/rand/v2"
	"slices"
	"testing"

	"coterie/aes"
	"coterie/api"
)

func filled(n int) []byte {
	b := make([]byte, n)
	for i := range b {
		b[i] = byte(i*7 + i>>8 + 1)
	}
	return b
}

func block(t *testing.T, text string) api.Block {
	t.Helper()
	b, err := hex.DecodeString(text)
	if err != nil || len(b) != 16 {
		t.Fatal(text, err)
	}
	return api.Block(b)
}

// someBlocks are the same at each run.
func someBlocks(many int) []api.Block {
	r := rand.New(rand.NewPCG(1, 2))
	blocks := make([]api.Block, many)
	for i := range blocks {
		binary.BigEndian.PutUint64(blocks[i][:], r.Uint64())
		binary.BigEndian.PutUint64(blocks[i][8:], r.Uint64())
	}
	return blocks
}

// byLibrary is the library's block, encrypted.
func byLibrary(t *testing.T, k, in api.Block) api.Block {
	t.Helper()
	c, err := libaes.NewCipher(k[:])
	if err != nil {
		t.Fatal(err)
	}
	var out api.Block
	c.Encrypt(out[:], in[:])
	return out
}

// counted is what the library makes of b by a nonce and a counter.
func counted(t *testing.T, k api.Block, n api.Nonce, from uint32, b []byte) []byte {
	t.Helper()
	c, err := libaes.NewCipher(k[:])
	if err != nil {
		t.Fatal(err)
	}
	out := make([]byte, len(b))
	cipher.NewCTR(c, binary.BigEndian.AppendUint32(n[:], from)).XORKeyStream(out, b)
	return out
}

// product multiplies bytes as polynomials, and divides by 283 at the end.
func product(a, b byte) byte {
	p := 0
	for i := range 8 {
		if b>>i&1 == 1 {
			p ^= int(a) << i
		}
	}
	for i := 14; i >= 8; i-- {
		if p>>i&1 == 1 {
			p ^= 283 << (i - 8)
		}
	}
	return byte(p)
}

// boxed is a byte's box, by its words: its inverse is looked for, and goes bit by bit.
func boxed(x byte) byte {
	inverse := byte(0)
	for y := range 256 {
		if product(x, byte(y)) == 1 {
			inverse = byte(y)
		}
	}
	out := byte(0)
	for i := range 8 {
		bit := byte(99) >> i & 1
		for _, more := range []int{0, 4, 5, 6, 7} {
			bit ^= inverse >> ((i + more) % 8) & 1
		}
		out |= bit << i
	}
	return out
}

// words are a key's keys as words w0 to w43, by the boxes of this file.
func words(k api.Block) [44][4]byte {
	var w [44][4]byte
	mark := byte(1)
	for i := range w {
		if i < 4 {
			w[i] = [4]byte(k[4*i:])
			continue
		}
		last := w[i-1]
		if i%4 == 0 {
			last = [4]byte{boxed(last[1]) ^ mark, boxed(last[2]), boxed(last[3]), boxed(last[0])}
			mark = product(mark, 2)
		}
		for j := range last {
			w[i][j] = w[i-4][j] ^ last[j]
		}
	}
	return w
}

// P4.1

func TestBoxKnown(t *testing.T) {
	for _, x := range []struct{ x, want byte }{
		{0, 99}, {83, 237}, {1, 0x7c}, {2, 0x77}, {0x0f, 0x76}, {0x10, 0xca}, {0x52, 0}, {0x7f, 0xd2}, {0x80, 0xcd}, {0xf0, 0x8c}, {0xff, 0x16},
	} {
		if got := aes.Box(x.x); got != x.want {
			t.Errorf("%d: got %d", x.x, got)
		}
	}
}

func TestBoxOfEachByte(t *testing.T) {
	was := map[byte]int{}
	for i := range 256 {
		got := aes.Box(byte(i))
		if got != boxed(byte(i)) {
			t.Errorf("%d: got %d", i, got)
		}
		if at, is := was[got]; is {
			t.Errorf("%d and %d have one box", at, i)
		}
		if got == byte(i) || got == ^byte(i) {
			t.Errorf("%d: its box is itself, or its opposite", i)
		}
		was[got] = i
	}
}

func TestKeysKnown(t *testing.T) {
	for _, x := range []struct {
		k    string
		want map[int]string
	}{
		{"2b7e151628aed2a6abf7158809cf4f3c", map[int]string{
			0: "2b7e151628aed2a6abf7158809cf4f3c",
			1: "a0fafe1788542cb123a339392a6c7605",
			2: "f2c295f27a96b9435935807a7359f67f",
			3: "3d80477d4716fe3e1e237e446d7a883b",
			4: "ef44a541a8525b7fb671253bdb0bad00",
			5: "d4d1c6f87c839d87caf2b8bc11f915bc",
			6: "6d88a37a110b3efddbf98641ca0093fd",
			// The marks of the last two are those that go over.
			7:  "4e54f70e5f5fc9f384a64fb24ea6dc4f",
			8:  "ead27321b58dbad2312bf5607f8d292f",
			9:  "ac7766f319fadc2128d12941575c006e",
			10: "d014f9a8c9ee2589e13f0cc8b6630ca6",
		}},
		{"00000000000000000000000000000000", map[int]string{
			1:  "62636363626363636263636362636363",
			2:  "9b9898c9f9fbfbaa9b9898c9f9fbfbaa",
			10: "b4ef5bcb3e92e21123e951cf6f8f188e",
		}},
		{"000102030405060708090a0b0c0d0e0f", map[int]string{
			1:  "d6aa74fdd2af72fadaa678f1d6ab76fe",
			10: "13111d7fe3944a17f307a78b4d2b30c5",
		}},
	} {
		keys := aes.Keys(block(t, x.k))
		for i, want := range x.want {
			if keys[i] != block(t, want) {
				t.Errorf("%s: key %d is %x", x.k, i, keys[i])
			}
		}
	}
}

func TestKeysByWords(t *testing.T) {
	for _, k := range append(someBlocks(20), api.Block{}, api.Block{15: 1}, api.Block(bytes.Repeat([]byte{255}, 16))) {
		w := words(k)
		for j, key := range aes.Keys(k) {
			if want := slices.Concat(w[4*j][:], w[4*j+1][:], w[4*j+2][:], w[4*j+3][:]); !bytes.Equal(key[:], want) {
				t.Errorf("%x: key %d is %x", k, j, key)
			}
		}
	}
}

func TestEncryptKnown(t *testing.T) {
	for i, x := range []struct{ k, in, want string }{
		{"000102030405060708090a0b0c0d0e0f", "00112233445566778899aabbccddeeff", "69c4e0d86a7b0430d8cdb78070b4c55a"},
		{"2b7e151628aed2a6abf7158809cf4f3c", "3243f6a8885a308d313198a2e0370734", "3925841d02dc09fbdc118597196a0b32"},
		{"2b7e151628aed2a6abf7158809cf4f3c", "6bc1bee22e409f96e93d7e117393172a", "3ad77bb40d7a3660a89ecaf32466ef97"},
		{"2b7e151628aed2a6abf7158809cf4f3c", "ae2d8a571e03ac9c9eb76fac45af8e51", "f5d3d58503b9699de785895a96fdbaaf"},
		{"00000000000000000000000000000000", "00000000000000000000000000000000", "66e94bd4ef8a2c3b884cfa59ca342b2e"},
	} {
		if out := aes.Encrypt(block(t, x.k), block(t, x.in)); out != block(t, x.want) {
			t.Errorf("%d: got %x", i, out)
		}
	}
}

func TestEncryptByLibrary(t *testing.T) {
	blocks := someBlocks(400)
	for i := range len(blocks) - 1 {
		k, in := blocks[i], blocks[i+1]
		if out := aes.Encrypt(k, in); out != byLibrary(t, k, in) {
			t.Errorf("%x by %x: got %x", in, k, out)
		}
	}
	// One bit of the key, or of the block: each place counts.
	for i := range 128 {
		var one api.Block
		one[i/8] = 1 << (i % 8)
		if aes.Encrypt(one, api.Block{}) != byLibrary(t, one, api.Block{}) || aes.Encrypt(api.Block{}, one) != byLibrary(t, api.Block{}, one) {
			t.Errorf("bit %d", i)
		}
	}
}

// P4.2

func TestCtrKnown(t *testing.T) {
	k := block(t, "2b7e151628aed2a6abf7158809cf4f3c")
	n := api.Nonce{0xf0, 0xf1, 0xf2, 0xf3, 0xf4, 0xf5, 0xf6, 0xf7, 0xf8, 0xf9, 0xfa, 0xfb}
	plain, _ := hex.DecodeString("6bc1bee22e409f96e93d7e117393172aae2d8a571e03ac9c9eb76fac45af8e5130c81c46a35ce411e5fbc1191a0a52eff69f2445df4f9b17ad2b417be66c3710")
	want, _ := hex.DecodeString("874d6191b620e3261bef6864990db6ce9806f66b7970fdff8617187bb9fffdff5ae4df3edbd5d35e5b4f09020db03eab1e031dda2fbe03d1792170a0f3009cee")
	for many := range len(plain) + 1 {
		if out, e := aes.Ctr(k, n, 0xfcfdfeff, plain[:many]); !bytes.Equal(out, want[:many]) || e != api.OK {
			t.Errorf("%d bytes: got %x, %d", many, out, e)
		}
	}
}

func TestCtrByLibrary(t *testing.T) {
	blocks, b := someBlocks(20), filled(5000)
	for i, k := range blocks {
		n := api.Nonce(blocks[(i+1)%len(blocks)][:])
		for _, from := range []uint32{0, 1, 254, 255, 256, 65535, 1<<24 - 1, 1<<31 - 1, 1 << 31, math.MaxUint32 - 1000} {
			for _, many := range []int{0, 1, 15, 16, 17, 31, 32, 33, 255, 256, 5000 - i} {
				if out, e := aes.Ctr(k, n, from, b[:many]); !bytes.Equal(out, counted(t, k, n, from, b[:many])) || e != api.OK {
					t.Errorf("key %d, from %d, %d bytes: %d bytes, %d", i, from, many, len(out), e)
				}
			}
		}
	}
}

// The stream is of blocks of the nonce and a counter, each encrypted.
func TestCtrIsOfBlocks(t *testing.T) {
	k, n := someBlocks(1)[0], api.Nonce{1, 2, 3, 11: 12}
	for _, from := range []uint32{0, 255, 0x01020304, math.MaxUint32 - 2} {
		out, e := aes.Ctr(k, n, from, make([]byte, 40))
		if len(out) != 40 || e != api.OK {
			t.Fatal(len(out), e)
		}
		for i := range 3 {
			in := api.Block(binary.BigEndian.AppendUint32(slices.Clone(n[:]), from+uint32(i)))
			stream := aes.Encrypt(k, in)
			if part := out[16*i : min(16*i+16, 40)]; !bytes.Equal(part, stream[:len(part)]) {
				t.Errorf("from %d, block %d: got %x", from, i, part)
			}
		}
	}
}

// The last counter is 2^32 less 1: a byte may be ahead of it, and none behind.
func TestCtrAtTheLastCounter(t *testing.T) {
	k, n := api.Block{1}, api.Nonce{2}
	for _, left := range []int{1, 2, 3, 100, api.MaxBytes / 16} {
		from := uint32(1<<32 - left)
		b := filled(16*left + 16)
		for _, many := range []int{0, 1, 16*left - 16, 16*left - 15, 16*left - 1, 16 * left} {
			if out, e := aes.Ctr(k, n, from, b[:many]); !bytes.Equal(out, counted(t, k, n, from, b[:many])) || e != api.OK {
				t.Errorf("%d counters, %d bytes: got %d bytes, %d", left, many, len(out), e)
			}
		}
		if left == api.MaxBytes/16 {
			continue
		}
		for _, many := range []int{16*left + 1, 16*left + 15, 16*left + 16} {
			if out, e := aes.Ctr(k, n, from, b[:many]); out != nil || e != api.ErrArg {
				t.Errorf("%d counters, %d bytes: got %d bytes, %d", left, many, len(out), e)
			}
		}
	}
}

func TestCtrOfMany(t *testing.T) {
	k, n, b := api.Block{3}, api.Nonce{4}, filled(2*api.MaxBytes)
	for _, many := range []int{api.MaxBytes - 1, api.MaxBytes} {
		if out, e := aes.Ctr(k, n, 7, b[:many]); !bytes.Equal(out, counted(t, k, n, 7, b[:many])) || e != api.OK {
			t.Errorf("%d bytes: got %d bytes, %d", many, len(out), e)
		}
	}
	// One counter too few, even for as many bytes as may be.
	if out, e := aes.Ctr(k, n, 1<<32-api.MaxBytes/16+1, b[:api.MaxBytes]); out != nil || e != api.ErrArg {
		t.Errorf("got %d bytes, %d", len(out), e)
	}
	for _, many := range []int{api.MaxBytes + 1, 2 * api.MaxBytes} {
		// What is too long is told ahead of a counter that may not be.
		for _, from := range []uint32{0, 1 << 31, math.MaxUint32} {
			if out, e := aes.Ctr(k, n, from, b[:many]); out != nil || e != api.ErrLong {
				t.Errorf("from %d, %d bytes: got %d bytes, %d", from, many, len(out), e)
			}
		}
	}
}

func TestCtrOfNothing(t *testing.T) {
	for _, from := range []uint32{0, 1, math.MaxUint32} {
		for _, b := range [][]byte{nil, {}} {
			if out, e := aes.Ctr(api.Block{1}, api.Nonce{2}, from, b); len(out) != 0 || e != api.OK {
				t.Errorf("from %d: got %x, %d", from, out, e)
			}
		}
	}
}

// P4.3

func TestDoneTwice(t *testing.T) {
	b := filled(1000)
	for i, k := range someBlocks(10) {
		for _, many := range []int{0, 1, 15, 16, 17, 999, 1000} {
			n, from := api.Nonce(k[4:]), binary.BigEndian.Uint32(k[:])
			once, e := aes.Ctr(k, n, from, b[:many])
			if e != api.OK {
				t.Fatal(i, many, e)
			}
			if many > 14 && bytes.Equal(once, b[:many]) {
				t.Errorf("%d, %d bytes: they are as they were, done once", i, many)
			}
			if twice, e := aes.Ctr(k, n, from, once); !bytes.Equal(twice, b[:many]) || e != api.OK {
				t.Errorf("%d, %d bytes: got %d bytes, %d", i, many, len(twice), e)
			}
		}
	}
}

func TestTwoBlocksStayTwo(t *testing.T) {
	for _, k := range someBlocks(3) {
		was := map[api.Block]api.Block{}
		for _, first := range []api.Block{{}, k, {0: 255, 15: 255}} {
			for i := range 16 {
				for x := range 256 {
					in := first
					in[i] = byte(x)
					out := aes.Encrypt(k, in)
					if other, is := was[out]; is && other != in {
						t.Fatalf("%x and %x are encrypted to one", other, in)
					}
					was[out] = in
				}
			}
		}
	}
}

func TestPartsOfWholeBlocks(t *testing.T) {
	k, n, b := api.Block{5}, api.Nonce{6}, filled(333)
	for _, from := range []uint32{0, 250, 65530, math.MaxUint32 - 20} {
		all, e := aes.Ctr(k, n, from, b)
		if e != api.OK {
			t.Fatal(e)
		}
		for step := 1; step < 22; step++ {
			var out []byte
			for at := 0; at < len(b); at += 16 * step {
				part, e := aes.Ctr(k, n, from+uint32(at/16), b[at:min(at+16*step, len(b))])
				if e != api.OK {
					t.Fatal(from, step, at, e)
				}
				out = append(out, part...)
			}
			if !bytes.Equal(out, all) {
				t.Errorf("from %d, %d blocks a part: got %x", from, step, out)
			}
		}
	}
}

// R2: what is handed in is not changed, room behind it or none, and what is answered shares nothing with it.
func TestNothingIsShared(t *testing.T) {
	b := filled(200)
	before := slices.Clone(b)
	k, n := api.Block{1, 2}, api.Nonce{3, 4}
	out, e := aes.Ctr(k, n, 5, b[20:57])
	if e != api.OK {
		t.Fatal(e)
	}
	again, _ := aes.Ctr(k, n, 5, b[20:57])
	keys := aes.Keys(k)
	aes.Encrypt(k, keys[1])
	if !bytes.Equal(b, before) || k != (api.Block{1, 2}) || n != (api.Nonce{3, 4}) {
		t.Fatal("what was handed in was changed")
	}
	want := counted(t, k, n, 5, before[20:57])
	clear(b)
	if !bytes.Equal(out, want) {
		t.Errorf("what was answered is now %x", out)
	}
	clear(out[:cap(out)])
	clear(keys[:])
	if !bytes.Equal(again, want) || aes.Keys(k) == keys {
		t.Error("two answers share their bytes")
	}
}

func BenchmarkCtr(b *testing.B) {
	text := filled(api.MaxBytes)
	b.SetBytes(int64(len(text)))
	for b.Loop() {
		aes.Ctr(api.Block{1}, api.Nonce{2}, 0, text)
	}
}

func BenchmarkEncrypt(b *testing.B) {
	for b.Loop() {
		aes.Encrypt(api.Block{1}, api.Block{2})
	}
}
