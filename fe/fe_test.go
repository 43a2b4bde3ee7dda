package fe_test

import (
	"encoding/binary"
	"math"
	"math/big"
	"math/rand/v2"
	"slices"
	"testing"

	"coterie/api"
	"coterie/fe"
)

const (
	low  = 1<<51 - 1
	most = 1<<52 - 1
)

// prime is 2^255 less 19.
var prime = new(big.Int).Sub(new(big.Int).Lsh(big.NewInt(1), 255), big.NewInt(19))

// whole is a number's parts together, as they are.
func whole(f api.Fe) *big.Int {
	n := new(big.Int)
	for i, part := range f {
		n.Add(n, new(big.Int).Lsh(new(big.Int).SetUint64(part), uint(51*i)))
	}
	return n
}

// value is what a number stands for.
func value(f api.Fe) *big.Int { return new(big.Int).Mod(whole(f), prime) }

// key is a number's bytes, the lowest first.
func key(n *big.Int) api.Key {
	var k api.Key
	n.FillBytes(k[:])
	slices.Reverse(k[:])
	return k
}

// parted is a number in parts: in each of them what it keeps, and all the rest in the last one.
func parted(n *big.Int) api.Fe {
	var f api.Fe
	rest := new(big.Int).Set(n)
	for i := range 4 {
		f[i] = new(big.Int).And(rest, big.NewInt(low)).Uint64()
		rest.Rsh(rest, 51)
	}
	f[4] = rest.Uint64()
	return f
}

// beside is the prime, so many times, and a little more or less.
func beside(times, more int64) api.Fe {
	n := new(big.Int).Mul(prime, big.NewInt(times))
	return parted(n.Add(n, big.NewInt(more)))
}

// edges are numbers that are, or stand for, what is least or greatest, or that have one part at an edge.
func edges() []api.Fe {
	all := []api.Fe{
		{}, {1}, {2}, {18}, {19}, {20},
		{low, low, low, low, low}, {most, most, most, most, most},
		{most - 38, most - 1, most - 1, most - 1, most - 1},
		{1 << 51, low, low, low, low}, {1 << 51, 1 << 51, 1 << 51, 1 << 51, 1 << 51},
		{low - 18, low, low, low, 1 << 51}, {most, low, low, low, low}, {19, 0, 0, 0, most},
	}
	for _, more := range []int64{-20, -19, -2, -1, 0, 1, 2, 17, 18, 19, 20} {
		all = append(all, beside(1, more), beside(2, more))
	}
	for i := range 5 {
		for _, part := range []uint64{1, low, 1 << 51, most} {
			var f api.Fe
			f[i] = part
			all = append(all, f)
		}
	}
	return all
}

// some are the same at each run.
func some(many int) []api.Fe {
	r := rand.New(rand.NewPCG(5, 51))
	all := make([]api.Fe, many)
	for i := range all {
		for j := range all[i] {
			all[i][j] = r.Uint64() & most
		}
	}
	return all
}

// bad are numbers that may not be: one part is too great, by little or much.
func bad() []api.Fe {
	var all []api.Fe
	for i := range 5 {
		for _, part := range []uint64{1 << 52, 1<<52 + 1, 1 << 53, 1 << 63, math.MaxUint64} {
			f := api.Fe{1, 2, 3, 4, 5}
			f[i] = part
			all = append(all, f)
		}
	}
	return append(all, api.Fe{1 << 52, 1 << 52, 1 << 52, 1 << 52, 1 << 52}, api.Fe{math.MaxUint64, math.MaxUint64, math.MaxUint64, math.MaxUint64, math.MaxUint64})
}

// holds tells of an answer that it may be, and stands for what it has to.
func holds(t *testing.T, what string, f api.Fe, e api.Errno, want *big.Int) {
	t.Helper()
	for _, part := range f {
		if part > most {
			t.Fatalf("%s: %v may not be", what, f)
		}
	}
	if e != api.OK || value(f).Cmp(new(big.Int).Mod(want, prime)) != 0 {
		t.Fatalf("%s: got %v, %d", what, f, e)
	}
}

// refused tells of an answer that it is an error alone.
func refused(t *testing.T, what string, f api.Fe, e api.Errno) {
	t.Helper()
	if f != (api.Fe{}) || e != api.ErrArg {
		t.Errorf("%s: got %v, %d", what, f, e)
	}
}

// P5.1

func TestCheck(t *testing.T) {
	for _, f := range append(edges(), some(100)...) {
		if e := fe.Check(f); e != api.OK {
			t.Errorf("%v: got %d", f, e)
		}
	}
	for _, f := range bad() {
		if e := fe.Check(f); e != api.ErrArg {
			t.Errorf("%v: got %d", f, e)
		}
	}
}

func TestOfKnown(t *testing.T) {
	for _, x := range []struct {
		b    api.Key
		want *big.Int
	}{
		{api.Key{}, big.NewInt(0)},
		{api.Key{1}, big.NewInt(1)},
		{api.Key{0, 1}, big.NewInt(256)},
		{api.Key{44, 1}, big.NewInt(300)},
		{api.Key{6: 8}, big.NewInt(1 << 51)},
		{api.Key{31: 127}, new(big.Int).Lsh(big.NewInt(127), 248)},
		{api.Key{31: 255}, new(big.Int).Lsh(big.NewInt(127), 248)},
		{api.Key{31: 128}, big.NewInt(0)},
	} {
		holds(t, "Of", fe.Of(x.b), api.OK, x.want)
	}
}

func TestOfEachBit(t *testing.T) {
	for i := range 256 {
		var b api.Key
		b[i/8] = 1 << (i % 8)
		want := new(big.Int)
		if i < 255 {
			want.Lsh(big.NewInt(1), uint(i))
		}
		holds(t, "Of", fe.Of(b), api.OK, want)
	}
}

func TestOfBytes(t *testing.T) {
	keys := []api.Key{key(prime), key(new(big.Int).Add(prime, big.NewInt(18))), key(new(big.Int).Sub(prime, big.NewInt(1)))}
	r := rand.New(rand.NewPCG(7, 8))
	for range 300 {
		var k api.Key
		for i := 0; i < len(k); i += 8 {
			binary.LittleEndian.PutUint64(k[i:], r.Uint64())
		}
		keys = append(keys, k)
	}
	for _, k := range keys {
		for _, high := range []byte{0, 128} {
			k[31] = k[31]&127 | high
			n := k
			n[31] &= 127
			slices.Reverse(n[:])
			holds(t, "Of", fe.Of(k), api.OK, new(big.Int).SetBytes(n[:]))
		}
	}
}

func TestBytesKnown(t *testing.T) {
	for i, x := range []struct {
		f    api.Fe
		want api.Key
	}{
		{api.Fe{}, api.Key{}},
		{api.Fe{300}, api.Key{44, 1}},
		{api.Fe{0, 1}, api.Key{6: 8}},
		{api.Fe{1 << 51}, api.Key{6: 8}},
		{api.Fe{0, 0, 1}, api.Key{12: 64}},
		{api.Fe{0, 0, 0, 1}, api.Key{19: 2}},
		{api.Fe{0, 0, 0, 0, 1}, api.Key{25: 16}},
		{api.Fe{0, 0, 0, 0, 1 << 50}, api.Key{31: 64}},
		{api.Fe{0, 0, 0, 0, 1 << 51}, api.Key{19}},
		{beside(1, -1), key(new(big.Int).Sub(prime, big.NewInt(1)))},
		{beside(1, 0), api.Key{}},
		{beside(1, 1), api.Key{1}},
		{beside(1, 18), api.Key{18}},
		{beside(1, 19), api.Key{19}},
		{beside(2, -1), key(new(big.Int).Sub(prime, big.NewInt(1)))},
		{beside(2, 0), api.Key{}},
		{beside(2, 1), api.Key{1}},
	} {
		if b, e := fe.Bytes(x.f); b != x.want || e != api.OK {
			t.Errorf("%d: got %v, %d", i, b, e)
		}
	}
}

func TestBytesAreThoseOfTheLeast(t *testing.T) {
	for _, f := range append(edges(), some(500)...) {
		if b, e := fe.Bytes(f); b != key(value(f)) || e != api.OK {
			t.Errorf("%v: got %v, %d", f, b, e)
		}
	}
	for _, f := range bad() {
		if b, e := fe.Bytes(f); b != (api.Key{}) || e != api.ErrArg {
			t.Errorf("%v: got %v, %d", f, b, e)
		}
	}
}

func TestBytesOfBytes(t *testing.T) {
	for _, f := range append(edges(), some(100)...) {
		b, _ := fe.Bytes(f)
		if again, e := fe.Bytes(fe.Of(b)); again != b || e != api.OK || !fe.Same(f, fe.Of(b)) {
			t.Errorf("%v: got %v, %d", f, again, e)
		}
	}
}

func TestSame(t *testing.T) {
	all := append(edges(), some(50)...)
	for _, a := range all {
		for _, b := range all {
			if fe.Same(a, b) != (value(a).Cmp(value(b)) == 0) {
				t.Errorf("%v, %v", a, b)
			}
		}
	}
	for _, x := range [][2]api.Fe{
		{{}, beside(1, 0)}, {{1}, beside(1, 1)}, {{18}, {low, low, low, low, low}}, {{}, beside(2, 0)}, {{19}, {0, 0, 0, 0, 1 << 51}}, {{1 << 51}, {0, 1}},
	} {
		if !fe.Same(x[0], x[1]) || !fe.Same(x[1], x[0]) {
			t.Errorf("%v, %v", x[0], x[1])
		}
	}
}

func TestSameOfWhatMayNotBe(t *testing.T) {
	for _, f := range bad() {
		like := parted(value(f))
		if fe.Same(f, f) || fe.Same(f, like) || fe.Same(like, f) || !fe.Same(like, like) {
			t.Errorf("%v", f)
		}
	}
}

// P5.2

func TestAddSubMul(t *testing.T) {
	all := append(edges(), some(60)...)
	for _, a := range all {
		for _, b := range all {
			x, y := whole(a), whole(b)
			sum, e := fe.Add(a, b)
			holds(t, "Add", sum, e, new(big.Int).Add(x, y))
			less, e := fe.Sub(a, b)
			holds(t, "Sub", less, e, new(big.Int).Sub(x, y))
			product, e := fe.Mul(a, b)
			holds(t, "Mul", product, e, new(big.Int).Mul(x, y))
		}
	}
}

// Each pair of bits that may be set: what goes over comes back at its place.
func TestMulOfEachBit(t *testing.T) {
	bit := func(i int) api.Fe {
		var f api.Fe
		f[i/52] = 1 << (i % 52)
		return f
	}
	for i := range 260 {
		for j := range 260 {
			a, b := bit(i), bit(j)
			product, e := fe.Mul(a, b)
			holds(t, "Mul", product, e, new(big.Int).Mul(whole(a), whole(b)))
		}
	}
}

func TestTwiceTheGreatest(t *testing.T) {
	sum, e := fe.Add(beside(1, -1), beside(1, -1))
	holds(t, "Add", sum, e, new(big.Int).Sub(prime, big.NewInt(2)))
	product, e := fe.Mul(beside(1, -1), api.Fe{2})
	holds(t, "Mul", product, e, new(big.Int).Sub(prime, big.NewInt(2)))
	if !fe.Same(sum, beside(1, -2)) || !fe.Same(product, beside(1, -2)) {
		t.Errorf("got %v, %v", sum, product)
	}
}

// What is answered is taken again and again: it goes on to be what may be.
func TestAnswersAreTaken(t *testing.T) {
	full := api.Fe{most, most, most, most, most}
	f, want := full, whole(full)
	for i, other := range append(edges(), some(300)...) {
		var e api.Errno
		switch i % 4 {
		case 0:
			f, e = fe.Mul(f, other)
			want.Mul(want, whole(other))
		case 1:
			f, e = fe.Sub(f, other)
			want.Sub(want, whole(other))
		case 2:
			f, e = fe.Add(f, other)
			want.Add(want, whole(other))
		case 3:
			f, e = fe.Square(f, 1)
			want.Mul(want, want)
		}
		want.Mod(want, prime)
		holds(t, "on", f, e, want)
	}
	for range 200 {
		f, _ = fe.Add(f, f)
		want.Lsh(want, 1)
		holds(t, "Add", f, api.OK, want)
	}
	for range 200 {
		f, _ = fe.Sub(f, full)
		want.Sub(want, whole(full))
		holds(t, "Sub", f, api.OK, want)
	}
}

func TestSquare(t *testing.T) {
	for _, a := range append(edges(), some(5)...) {
		want := value(a)
		for times := range 301 {
			square, e := fe.Square(a, times)
			holds(t, "Square", square, e, want)
			want.Mul(want, want).Mod(want, prime)
		}
	}
	for i, want := range []uint64{3, 9, 81, 6561} {
		square, e := fe.Square(api.Fe{3}, i)
		holds(t, "Square", square, e, new(big.Int).SetUint64(want))
	}
}

func TestSquareTooOften(t *testing.T) {
	for _, times := range []int{-1, -2, 301, 302, 1000, math.MinInt, math.MaxInt, 1 << 32} {
		square, e := fe.Square(api.Fe{3}, times)
		refused(t, "Square", square, e)
		square, e = fe.Square(bad()[0], times)
		refused(t, "Square", square, e)
	}
}

func TestInvert(t *testing.T) {
	for _, a := range append(edges(), some(200)...) {
		inverse, e := fe.Invert(a)
		want := new(big.Int)
		if value(a).Sign() != 0 {
			want.ModInverse(value(a), prime)
		}
		holds(t, "Invert", inverse, e, want)
		one, e := fe.Mul(a, inverse)
		if value(a).Sign() != 0 {
			holds(t, "Mul", one, e, big.NewInt(1))
		} else {
			holds(t, "Mul", one, e, new(big.Int))
		}
	}
}

func TestInvertNothing(t *testing.T) {
	for _, a := range []api.Fe{{}, beside(1, 0), beside(2, 0), {most - 37, most - 1, most - 1, most - 1, most - 1}} {
		if value(a).Sign() != 0 {
			t.Fatal(a)
		}
		inverse, e := fe.Invert(a)
		holds(t, "Invert", inverse, e, new(big.Int))
	}
}

func TestWhatMayNotBeIsRefused(t *testing.T) {
	for _, f := range bad() {
		for _, other := range []api.Fe{{}, {7, 7, 7, 7, 7}, {most, most, most, most, most}, f} {
			for _, x := range [][2]api.Fe{{f, other}, {other, f}} {
				sum, e := fe.Add(x[0], x[1])
				refused(t, "Add", sum, e)
				less, e := fe.Sub(x[0], x[1])
				refused(t, "Sub", less, e)
				product, e := fe.Mul(x[0], x[1])
				refused(t, "Mul", product, e)
			}
		}
		for _, times := range []int{0, 1, 300} {
			square, e := fe.Square(f, times)
			refused(t, "Square", square, e)
		}
		inverse, e := fe.Invert(f)
		refused(t, "Invert", inverse, e)
	}
}

// P5.3

// must answers what a call answers that has no error.
func must(t *testing.T) func(f api.Fe, e api.Errno) api.Fe {
	return func(f api.Fe, e api.Errno) api.Fe {
		t.Helper()
		if e != api.OK {
			t.Fatal(e)
		}
		return f
	}
}

func TestNoOrder(t *testing.T) {
	is := must(t)
	all := append(edges(), some(20)...)
	for i, a := range all {
		for j, b := range all {
			c := all[(i+3*j+1)%len(all)]
			if !fe.Same(is(fe.Add(a, b)), is(fe.Add(b, a))) || !fe.Same(is(fe.Mul(a, b)), is(fe.Mul(b, a))) {
				t.Errorf("%v, %v", a, b)
			}
			if !fe.Same(is(fe.Add(is(fe.Add(a, b)), c)), is(fe.Add(a, is(fe.Add(b, c))))) || !fe.Same(is(fe.Mul(is(fe.Mul(a, b)), c)), is(fe.Mul(a, is(fe.Mul(b, c))))) {
				t.Errorf("%v, %v, %v", a, b, c)
			}
		}
	}
}

func TestProductsWithSums(t *testing.T) {
	is := must(t)
	all := append(edges(), some(20)...)
	for i, a := range all {
		for j, b := range all {
			c := all[(2*i+j+1)%len(all)]
			together := is(fe.Mul(a, is(fe.Add(b, c))))
			one := is(fe.Add(is(fe.Mul(a, b)), is(fe.Mul(a, c))))
			apart := is(fe.Mul(a, is(fe.Sub(b, c))))
			other := is(fe.Sub(is(fe.Mul(a, b)), is(fe.Mul(a, c))))
			if !fe.Same(together, one) || !fe.Same(apart, other) {
				t.Errorf("%v, %v, %v", a, b, c)
			}
		}
	}
}

func TestTakenAwayAndAdded(t *testing.T) {
	is := must(t)
	all := append(edges(), some(20)...)
	for _, a := range all {
		for _, b := range all {
			if !fe.Same(is(fe.Add(is(fe.Sub(a, b)), b)), a) || !fe.Same(is(fe.Sub(is(fe.Add(a, b)), b)), a) {
				t.Errorf("%v, %v", a, b)
			}
		}
		if !fe.Same(is(fe.Sub(a, a)), api.Fe{}) || !fe.Same(is(fe.Mul(a, api.Fe{1})), a) || !fe.Same(is(fe.Add(a, api.Fe{})), a) {
			t.Errorf("%v", a)
		}
	}
}

func TestSquaresAreProducts(t *testing.T) {
	is := must(t)
	for _, a := range append(edges(), some(20)...) {
		if !fe.Same(is(fe.Square(a, 1)), is(fe.Mul(a, a))) || !fe.Same(is(fe.Square(is(fe.Square(a, 2)), 3)), is(fe.Square(a, 5))) {
			t.Errorf("%v", a)
		}
		if !fe.Same(is(fe.Invert(is(fe.Invert(a)))), a) {
			t.Errorf("%v", a)
		}
	}
}

// What is handed in stays, as it is handed in by value, and each call answers the same again.
func TestNothingIsShared(t *testing.T) {
	a, b := api.Fe{most, 1, most, 2, most}, api.Fe{5, most, 6, most, 7}
	wasA, wasB := a, b
	var was [2][]api.Fe
	for i := range was {
		is := must(t)
		was[i] = []api.Fe{is(fe.Add(a, b)), is(fe.Sub(a, b)), is(fe.Mul(a, b)), is(fe.Square(a, 9)), is(fe.Invert(a)), fe.Of(api.Key{9: 9})}
	}
	if !slices.Equal(was[0], was[1]) || a != wasA || b != wasB {
		t.Errorf("got %v, and %v", was[0], was[1])
	}
}
