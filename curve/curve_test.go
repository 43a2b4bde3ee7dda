package curve_test

import (
	"crypto/ecdh"
	"encoding/binary"
	"encoding/hex"
	"math/big"
	"math/rand/v2"
	"slices"
	"testing"

	"coterie/api"
	"coterie/curve"
)

// prime is 2^255 less 19, and own the curve's own number.
var (
	prime = new(big.Int).Sub(new(big.Int).Lsh(big.NewInt(1), 255), big.NewInt(19))
	own   = big.NewInt(486662)
)

func unhex(t *testing.T, text string) api.Key {
	t.Helper()
	b, err := hex.DecodeString(text)
	if err != nil || len(b) != 32 {
		t.Fatal(text)
	}
	return api.Key(b)
}

// number is a key's number, and key a number's bytes, the lowest first.
func number(k api.Key) *big.Int {
	slices.Reverse(k[:])
	return new(big.Int).SetBytes(k[:])
}

func key(n *big.Int) api.Key {
	var k api.Key
	n.FillBytes(k[:])
	slices.Reverse(k[:])
	return k
}

// beside is the prime, and a little more or less.
func beside(more int64) api.Key { return key(new(big.Int).Add(prime, big.NewInt(more))) }

func full() api.Key {
	return key(new(big.Int).Sub(new(big.Int).Lsh(big.NewInt(1), 256), big.NewInt(1)))
}

// some are the same at each run.
func some(many int) []api.Key {
	r := rand.New(rand.NewPCG(6, 25519))
	all := make([]api.Key, many)
	for i := range all {
		for j := 0; j < len(all[i]); j += 8 {
			binary.LittleEndian.PutUint64(all[i][j:], r.Uint64())
		}
	}
	return all
}

// numbers are those whose bits are at edges, and some.
func numbers(many int) []api.Key {
	return append([]api.Key{{}, {1}, {7}, {8}, {31: 64}, {31: 63}, {31: 128}, {31: 255}, full(), beside(0), beside(-1)}, some(many)...)
}

// small are the points of which each number that is clamped makes 0: their orders are 1, 2, 4 and 8, on the curve or on its twist, written in all ways.
func small(t *testing.T) []api.Key {
	all := []api.Key{
		{}, {1}, beside(-1), beside(0), beside(1),
		unhex(t, "e0eb7a7c3b41b8ae1656e3faf19fc46ada098deb9c32b1fd866205165f49b800"),
		unhex(t, "5f9c95bca3508c24b1d0b1559c83ef5b04445cc4581c8e86d8224eddd09f1157"),
	}
	for _, u := range all {
		u[31] |= 128
		all = append(all, u)
	}
	return all
}

// place is a point with both its numbers, modulo the prime; nil is the one that is far off.
type place struct{ x, y *big.Int }

// law adds points x, y of the curve f y y = x x x + own x x + x, by their line. It is another way than the ladder's.
type law struct{ f *big.Int }

func reduced(n *big.Int) *big.Int { return n.Mod(n, prime) }

func by(a, b *big.Int) *big.Int {
	inverse := new(big.Int).ModInverse(new(big.Int).Mod(b, prime), prime)
	return reduced(inverse.Mul(inverse, a))
}

// slope is that of the line through two points, or of the one that touches one.
func (l law) slope(p, q *place) *big.Int {
	if p.x.Cmp(q.x) != 0 {
		return by(new(big.Int).Sub(q.y, p.y), new(big.Int).Sub(q.x, p.x))
	}
	up := new(big.Int).Mul(big.NewInt(3), p.x)
	up.Add(up, new(big.Int).Lsh(own, 1)).Mul(up, p.x).Add(up, big.NewInt(1))
	down := new(big.Int).Mul(l.f, p.y)
	return by(up, down.Lsh(down, 1))
}

func (l law) sum(p, q *place) *place {
	if p == nil {
		return q
	}
	if q == nil {
		return p
	}
	if p.x.Cmp(q.x) == 0 && reduced(new(big.Int).Add(p.y, q.y)).Sign() == 0 {
		return nil
	}
	s := l.slope(p, q)
	x := new(big.Int).Mul(s, s)
	x.Mul(x, l.f).Sub(x, own).Sub(x, p.x).Sub(x, q.x)
	y := new(big.Int).Sub(p.x, reduced(x))
	return &place{x, reduced(y.Mul(y, s).Sub(y, p.y))}
}

// byLaw is the product of a point by a number, by sums of points. Each x but 0 has the y 1 on some curve, and all of these tell the same x.
func byLaw(k, u api.Key) api.Key {
	u[31] &= 127
	k[0], k[31] = k[0]/8*8, k[31]%64+64
	x := reduced(number(u))
	if x.Sign() == 0 {
		return api.Key{}
	}
	f := new(big.Int).Add(x, own)
	f.Mul(f, x).Add(f, big.NewInt(1))
	l := law{reduced(f.Mul(f, x))}
	start, n := &place{x, big.NewInt(1)}, number(k)
	var product *place
	for i := n.BitLen() - 1; i >= 0; i-- {
		product = l.sum(product, product)
		if n.Bit(i) == 1 {
			product = l.sum(product, start)
		}
	}
	if product == nil {
		return api.Key{}
	}
	return key(product.x)
}

// byLibrary is the library's product: it tells no product of zeros, but an error.
func byLibrary(t *testing.T, k, u api.Key) api.Key {
	t.Helper()
	secret, err := ecdh.X25519().NewPrivateKey(k[:])
	if err != nil {
		t.Fatal(err)
	}
	point, err := ecdh.X25519().NewPublicKey(u[:])
	if err != nil {
		t.Fatal(err)
	}
	b, err := secret.ECDH(point)
	if err != nil {
		return api.Key{}
	}
	return api.Key(b)
}

// P6.1

func TestClampKnown(t *testing.T) {
	for _, x := range []struct{ k, want api.Key }{
		{api.Key{}, api.Key{31: 64}},
		{api.Key{0: 255, 31: 255}, api.Key{0: 248, 31: 127}},
		{api.Key{0: 7, 31: 128}, api.Key{31: 64}},
		{api.Key{0: 8, 1: 7, 30: 255, 31: 64}, api.Key{0: 8, 1: 7, 30: 255, 31: 64}},
		{api.Key{0: 9, 1: 255, 30: 128, 31: 191}, api.Key{0: 8, 1: 255, 30: 128, 31: 127}},
	} {
		if k := curve.Clamp(x.k); k != x.want {
			t.Errorf("%v: got %v", x.k, k)
		}
	}
}

// Each bit by itself, in a number of zeros and in one of ones: five are told, all others stay.
func TestClampEachBit(t *testing.T) {
	told := map[int]uint{0: 0, 1: 0, 2: 0, 254: 1, 255: 0}
	for i := range 256 {
		for _, k := range []api.Key{{}, full()} {
			k[i/8] ^= 1 << (i % 8)
			was, now := number(k), number(curve.Clamp(k))
			for j := range 256 {
				want, is := told[j]
				if !is {
					want = was.Bit(j)
				}
				if now.Bit(j) != want {
					t.Errorf("bit %d of %v: got %d", j, k, now.Bit(j))
				}
			}
		}
	}
}

func TestMultKnown(t *testing.T) {
	for i, x := range []struct{ k, u, want string }{
		{"a546e36bf0527c9d3b16154b82465edd62144c0ac1fc5a18506a2244ba449ac4", "e6db6867583030db3594c1a424b15f7c726624ec26b3353b10a903a6d0ab1c4c", "c3da55379de9c6908e94ea4df28d084f32eccf03491c71f754b4075577a28552"},
		{"4b66e9d4d1b4673c5ad22691957d6af5c11b6421e0ea01d42ca4169e7918ba0d", "e5210f12786811d3f4b7959d0538ae2c31dbe7106fc03c3efc4cd549c715a493", "95cbde9476e8907d7aade45cb4b873f88b595a68799fa152e6f8f7647aac7957"},
		{"77076d0a7318a57d3c16c17251b26645df4c2f87ebc0992ab177fba51db92c2a", "de9edb7d7b7dc1b4d35b61c2ece435373f8343c85b78674dadfc7e146f882b4f", "4a5d9d5ba4ce2de1728e3bf480350f25e07e21c947d19e3376f09b3c1e161742"},
		{"5dab087e624a8a4b79e17f8b83800ee66f3bb1292618b6fd1c2f8b27ff88e0eb", "8520f0098930a754748b7ddcb43ef75a0dbf3a0d26381af4eba4a98eaa9b4e6a", "4a5d9d5ba4ce2de1728e3bf480350f25e07e21c947d19e3376f09b3c1e161742"},
	} {
		if p := curve.Mult(unhex(t, x.k), unhex(t, x.u)); p != unhex(t, x.want) {
			t.Errorf("%d: got %x", i, p)
		}
	}
}

func TestBaseKnown(t *testing.T) {
	for i, x := range []struct{ k, want string }{
		{"77076d0a7318a57d3c16c17251b26645df4c2f87ebc0992ab177fba51db92c2a", "8520f0098930a754748b7ddcb43ef75a0dbf3a0d26381af4eba4a98eaa9b4e6a"},
		{"5dab087e624a8a4b79e17f8b83800ee66f3bb1292618b6fd1c2f8b27ff88e0eb", "de9edb7d7b7dc1b4d35b61c2ece435373f8343c85b78674dadfc7e146f882b4f"},
		{"0900000000000000000000000000000000000000000000000000000000000000", "422c8e7a6227d7bca1350b3e2bb7279f7897b87bb6854b783c60e80311ae3079"},
	} {
		if p := curve.Base(unhex(t, x.k)); p != unhex(t, x.want) {
			t.Errorf("%d: got %x", i, p)
		}
	}
}

// Each product is the next number, and the number the next point: what is wrong once stays wrong.
func TestMultOnAndOn(t *testing.T) {
	k, u := api.Key{9}, api.Key{9}
	for range 1000 {
		k, u = curve.Mult(k, u), k
	}
	if k != unhex(t, "684cf59ba83309552800ef566f2f4d3c1c3887c49360e3875f2eb94d99532c51") {
		t.Errorf("got %x", k)
	}
}

func TestMultIsTheLibrarys(t *testing.T) {
	points := some(200)
	for i, k := range numbers(200) {
		u := points[i%len(points)]
		if p := curve.Mult(k, u); p != byLibrary(t, k, u) {
			t.Errorf("%x, %x: got %x", k, u, p)
		}
		if p := curve.Base(k); p != byLibrary(t, k, api.Key{9}) {
			t.Errorf("%x: got %x", k, p)
		}
	}
}

// Points at the edges of the prime, and of what is written in 32 bytes.
func TestMultAtEdges(t *testing.T) {
	points := append(small(t), full(), api.Key{31: 128, 0: 2})
	for more := int64(-20); more <= 18; more++ {
		points = append(points, beside(more))
	}
	for i := range int64(20) {
		points = append(points, key(big.NewInt(i)))
	}
	for i, u := range points {
		for _, k := range append(numbers(0), some(60)[i%60]) {
			if p := curve.Mult(k, u); p != byLibrary(t, k, u) {
				t.Errorf("%x, %x: got %x", k, u, p)
			}
		}
	}
}

// Each bit of the number, and of the point, by itself.
func TestMultEachBit(t *testing.T) {
	for i := range 256 {
		var one api.Key
		one[i/8] = 1 << (i % 8)
		if p := curve.Base(one); p != byLibrary(t, one, api.Key{9}) {
			t.Errorf("%d: got %x", i, p)
		}
		k := some(1)[0]
		if p := curve.Mult(k, one); p != byLibrary(t, k, one) {
			t.Errorf("%d: got %x", i, p)
		}
	}
}

func TestMultIsByTheLaw(t *testing.T) {
	points := append([]api.Key{{9}, {2}, beside(-2), beside(18), full()}, some(12)...)
	points = append(points, small(t)...)
	all := numbers(20)
	for i, u := range points {
		k := all[i%len(all)]
		if p := curve.Mult(k, u); p != byLaw(k, u) {
			t.Errorf("%x, %x: got %x", k, u, p)
		}
	}
}

func TestMultOfSmallOnesIsNothing(t *testing.T) {
	for _, u := range small(t) {
		for _, k := range numbers(10) {
			if p := curve.Mult(k, u); p != (api.Key{}) {
				t.Errorf("%x, %x: got %x", k, u, p)
			}
		}
	}
}

// No other point comes to 0, and each product is below the prime.
func TestProductsAreWhole(t *testing.T) {
	for _, u := range append([]api.Key{{2}, {9}, beside(2), beside(-2)}, some(10)...) {
		for _, k := range numbers(5) {
			p := curve.Mult(k, u)
			if p == (api.Key{}) || number(p).Cmp(prime) >= 0 {
				t.Errorf("%x, %x: got %x", k, u, p)
			}
		}
	}
}

// P6.2

func TestTwoHaveTheSame(t *testing.T) {
	all := numbers(15)
	for i, a := range all {
		for _, b := range all[i:] {
			have := curve.Mult(a, curve.Base(b))
			if have != curve.Mult(b, curve.Base(a)) || have == (api.Key{}) {
				t.Errorf("%x, %x: got %x", a, b, have)
			}
		}
	}
}

func TestNumbersHaveNoOrder(t *testing.T) {
	points := append(small(t), some(20)...)
	for i, u := range points {
		a, b := some(40)[i], some(80)[79-i]
		if curve.Mult(a, curve.Mult(b, u)) != curve.Mult(b, curve.Mult(a, u)) {
			t.Errorf("%x, %x, %x", a, b, u)
		}
	}
}

func TestClampedOnceMore(t *testing.T) {
	for _, k := range numbers(100) {
		c, u := curve.Clamp(k), api.Key{4, 5, 6}
		if curve.Clamp(c) != c || curve.Mult(c, u) != curve.Mult(k, u) || curve.Base(c) != curve.Base(k) {
			t.Errorf("%x", k)
		}
	}
}

func TestHighestBitOfPoints(t *testing.T) {
	for i, u := range append([]api.Key{{}, {1}, {9}, beside(0), beside(18)}, some(50)...) {
		k, other := some(60)[i], u
		other[31] ^= 128
		if curve.Mult(k, u) != curve.Mult(k, other) {
			t.Errorf("%x, %x", k, u)
		}
	}
}

// One point is written in two ways, below the prime and above it.
func TestPointsAboveThePrime(t *testing.T) {
	for more := range int64(19) {
		for _, k := range some(3) {
			if curve.Mult(k, beside(more)) != curve.Mult(k, key(big.NewInt(more))) {
				t.Errorf("%x, %d", k, more)
			}
		}
	}
	if k := some(1)[0]; curve.Mult(k, beside(9)) != curve.Base(k) {
		t.Errorf("%x", k)
	}
}

// What is handed in stays, and each call answers the same again.
func TestNothingIsShared(t *testing.T) {
	k, u := full(), some(1)[0]
	wasK, wasU := k, u
	var was [2][3]api.Key
	for i := range was {
		was[i] = [3]api.Key{curve.Clamp(k), curve.Mult(k, u), curve.Base(k)}
	}
	if was[0] != was[1] || k != wasK || u != wasU {
		t.Errorf("got %v, and %v", was[0], was[1])
	}
}

func BenchmarkMult(b *testing.B) {
	k, u := some(1)[0], api.Key{9}
	for b.Loop() {
		u = curve.Mult(k, u)
	}
}
