package tag_test

import (
	"bytes"
	"crypto/sha256"
	"encoding/binary"
	"encoding/hex"
	"fmt"
	"math"
	"math/rand/v2"
	"slices"
	"testing"

	"coterie/api"
	"coterie/tag"
	"coterie/tree"
)

const most = 1000

func of(ids []int, levels ...[]int) api.Shape { return api.Shape{Ids: ids, Levels: levels} }

func kinds() []int { return []int{api.TwoK, api.RedK} }

// rising are so many Ids, from one on, by steps.
func rising(n, from, step int) []int {
	ids := make([]int, n)
	for i := range ids {
		ids[i] = from + i*step
	}
	return ids
}

// levels are all levels that may stand above n leaves.
func levels(n int) [][][]int {
	if n < 2 {
		return [][][]int{nil}
	}
	var all [][][]int
	var split func(left int, low []int)
	split = func(left int, low []int) {
		if left == 0 {
			for _, rest := range levels(len(low)) {
				all = append(all, append([][]int{slices.Clone(low)}, rest...))
			}
			return
		}
		for _, g := range []int{2, 3} {
			if g <= left {
				split(left-g, append(slices.Clone(low), g))
			}
		}
	}
	split(n, nil)
	return all
}

// upon are levels above so many leaves: as many of one number as may be, and what is left over.
func upon(n, first int) [][]int {
	var all [][]int
	for n > 1 {
		var groups []int
		for left := n; left > 0; {
			g := first
			if g > left || left-g == 1 {
				g = 5 - first
			}
			groups, left = append(groups, g), left-g
		}
		all, n = append(all, groups), len(groups)
	}
	return all
}

// wrong are trees that may not be, each by one thing, all of whose numbers have room in a text.
func wrong() []api.Shape {
	return []api.Shape{
		of([]int{api.MaxId + 1}),
		of([]int{math.MaxUint32}),
		of([]int{1, api.MaxId + 1}, []int{2}),
		of([]int{2, 1}, []int{2}),
		of([]int{1, 1}, []int{2}),
		of([]int{1, 3, 2}, []int{3}),
		of(nil, nil),
		of(nil, []int{2}),
		of([]int{1}, nil),
		of([]int{1}, []int{1}),
		of([]int{1, 2}),
		of([]int{1, 2, 3}),
		of([]int{1, 2}, nil),
		of([]int{1, 2}, []int{1, 1}, []int{2}),
		of([]int{1, 2, 3}, []int{1, 2}, []int{2}),
		of([]int{1, 2, 3, 4}, []int{4}),
		of([]int{1, 2}, []int{0, 2}, []int{2}),
		of([]int{1, 2}, []int{255}),
		of([]int{1, 2}, []int{3}),
		of([]int{1, 2, 3}, []int{2}),
		of([]int{1, 2, 3, 4}, []int{2, 3}, []int{2}),
		of([]int{1, 2, 3, 4}, []int{2, 2}, []int{3}),
		of([]int{1, 2, 3, 4}, []int{2, 2}),
		of([]int{1, 2}, []int{2}, nil),
		of([]int{1, 2}, []int{2}, []int{1}),
		of([]int{1, 2, 3, 4}, nil, []int{2, 2}, []int{2}),
		of(rising(most+1, 0, 1), upon(most+1, 3)...),
		of(rising(math.MaxUint16, 0, 1), upon(math.MaxUint16, 3)...),
		of([]int{1}, make([][]int, 255)...),
	}
}

// thing is a node of a tree, built once more from its levels: told as the words tell it, without red.
type thing struct {
	label string
	id    int
	kids  []*thing
	place int
	sum   api.Key
}

// grown are a tree's nodes, from below.
func grown(kind int, s api.Shape) []*thing {
	var row []*thing
	for _, id := range s.Ids {
		row = append(row, &thing{label: "leaf", id: id})
	}
	for _, groups := range s.Levels {
		var next []*thing
		for _, n := range groups {
			kids := row[:n:n]
			if n == 3 && kind == api.RedK {
				kids = []*thing{{label: "red", kids: kids[:2]}, kids[2]}
			}
			next, row = append(next, &thing{label: "node", kids: kids}), row[n:]
		}
		row = next
	}
	var all []*thing
	var tell func(x *thing)
	tell = func(x *thing) {
		for _, k := range x.kids {
			tell(k)
		}
		x.place = len(all)
		all = append(all, x)
	}
	for _, x := range row {
		tell(x)
	}
	return all
}

// text are texts, each behind how many bytes it has.
func text(parts ...[]byte) []byte {
	var b []byte
	for _, p := range parts {
		b = binary.BigEndian.AppendUint16(b, uint16(len(p)))
		b = append(b, p...)
	}
	return b
}

// wanted are the sums of all nodes, by the library's hash.
func wanted(t api.Tree) []api.Key {
	var sums []api.Key
	for i, x := range grown(t.Kind, t.S) {
		parts := [][]byte{[]byte(x.label)}
		if x.label == "leaf" {
			parts = append(parts, binary.BigEndian.AppendUint32(nil, uint32(x.id)))
		}
		parts = append(parts, t.Points[i][:])
		for _, k := range x.kids {
			parts = append(parts, k.sum[:])
		}
		x.sum = sha256.Sum256(text(parts...))
		sums = append(sums, x.sum)
	}
	return sums
}

// bare is a tree's text ahead of its points.
func bare(kind int, s api.Shape) []byte {
	b := []byte{byte(kind)}
	b = binary.BigEndian.AppendUint16(b, uint16(len(s.Ids)))
	for _, id := range s.Ids {
		b = binary.BigEndian.AppendUint32(b, uint32(id))
	}
	b = append(b, byte(len(s.Levels)))
	for _, groups := range s.Levels {
		b = binary.BigEndian.AppendUint16(b, uint16(len(groups)))
		for _, n := range groups {
			b = append(b, byte(n))
		}
	}
	return b
}

// written is a tree's text.
func written(t api.Tree) []byte {
	b := bare(t.Kind, t.S)
	for _, p := range t.Points {
		b = append(b, p[:]...)
	}
	return b
}

// points are so many points, each one's all bytes others than the next one's.
func points(n int) []api.Key {
	all := make([]api.Key, n)
	for i := range all {
		all[i] = sha256.Sum256(binary.BigEndian.AppendUint32([]byte("point"), uint32(i)))
	}
	return all
}

func pointed(kind int, s api.Shape) api.Tree {
	return api.Tree{Kind: kind, S: s, Points: points(len(grown(kind, s)))}
}

// trees are all small ones of both kinds.
func trees() []api.Tree {
	var all []api.Tree
	for n := 1; n <= 10; n++ {
		for _, l := range levels(n) {
			for _, kind := range kinds() {
				all = append(all, pointed(kind, of(rising(n, 10, 10), l...)))
			}
		}
	}
	return all
}

// great are trees of as many members as there may be, and some of fewer, and of the least and the greatest Ids.
func great(t *testing.T) []api.Tree {
	t.Helper()
	var all []api.Tree
	r := rand.New(rand.NewPCG(13, 1))
	for _, n := range []int{100, 255, 256, 257, 729, most} {
		s, e := tree.Build(r.Perm(n)...)
		if e != api.OK {
			t.Fatal(e)
		}
		for _, kind := range kinds() {
			all = append(all, pointed(kind, s),
				pointed(kind, of(rising(n, 0, 1), upon(n, 2)...)),
				pointed(kind, of(rising(n, api.MaxId-n+1, 1), upon(n, 3)...)))
		}
	}
	for _, kind := range kinds() {
		all = append(all, pointed(kind, of([]int{0})), pointed(kind, of([]int{api.MaxId})), pointed(kind, of([]int{0, api.MaxId}, []int{2})))
	}
	return all
}

func clone(t api.Tree) api.Tree {
	out := api.Tree{Kind: t.Kind, S: of(slices.Clone(t.S.Ids), slices.Clone(t.S.Levels)...), Points: slices.Clone(t.Points)}
	for k, groups := range out.S.Levels {
		out.S.Levels[k] = slices.Clone(groups)
	}
	return out
}

// same holds trees against each other by what they are told as, so that a list that is nil is one that is empty.
func same(a, b api.Tree) bool { return fmt.Sprint(a) == fmt.Sprint(b) }

func key(t *testing.T, s string) api.Key {
	t.Helper()
	b, err := hex.DecodeString(s)
	if err != nil || len(b) != 32 {
		t.Fatal(s)
	}
	return api.Key(b)
}

// refused asks that no call takes a tree, and that none tells anything else.
func refused(t *testing.T, what string, x api.Tree) {
	t.Helper()
	if e := tag.Check(x); e != api.ErrArg {
		t.Errorf("%s: check got %d", what, e)
	}
	if got, e := tag.Sums(x); len(got) != 0 || e != api.ErrArg {
		t.Errorf("%s: sums got %v, %d", what, got, e)
	}
	if got, e := tag.Sum(x); got != (api.Key{}) || e != api.ErrArg {
		t.Errorf("%s: sum got %v, %d", what, got, e)
	}
	if got, e := tag.Write(x); len(got) != 0 || e != api.ErrArg {
		t.Errorf("%s: write got %v, %d", what, got, e)
	}
	for _, id := range append([]int{-1, 0, 6, api.MaxId, api.MaxId + 1, math.MinInt, math.MaxInt}, x.S.Ids[:min(len(x.S.Ids), 3)]...) {
		if got, e := tag.Leaf(x, id); got != 0 || e != api.ErrArg {
			t.Errorf("%s: leaf of %d got %d, %d", what, id, got, e)
		}
	}
}

// notRead asks that nothing is read, and why.
func notRead(t *testing.T, what string, b []byte, at int, want api.Errno) {
	t.Helper()
	got, next, e := tag.Read(b, at)
	if !same(got, api.Tree{}) || next != 0 || e != want {
		t.Errorf("%s, at %d: got %v, %d, %d, instead of %d", what, at, got, next, e, want)
	}
}

// P13.1

func TestCheck(t *testing.T) {
	for _, x := range append(trees(), great(t)...) {
		if e := tag.Check(x); e != api.OK {
			t.Errorf("%v of kind %d: got %d", x.S, x.Kind, e)
		}
	}
}

// A point is none if all its bytes are 0: any bit makes it one.
func TestCheckEachBit(t *testing.T) {
	for bit := range 256 {
		x := pointed(api.RedK, of([]int{1, 2, 3}, []int{3}))
		for place := range x.Points {
			y := clone(x)
			y.Points[place] = api.Key{}
			y.Points[place][bit/8] = 1 << (bit % 8)
			if e := tag.Check(y); e != api.OK {
				t.Errorf("bit %d of point %d: got %d", bit, place, e)
			}
		}
	}
}

// Points may be the same, as long as they are there.
func TestCheckSamePoints(t *testing.T) {
	for _, x := range trees() {
		for i := range x.Points {
			x.Points[i] = x.Points[0]
		}
		if e := tag.Check(x); e != api.OK {
			t.Errorf("%v of kind %d: got %d", x.S, x.Kind, e)
		}
	}
}

func TestWrongKind(t *testing.T) {
	for _, kind := range []int{0, 3, -1, -2, 256, 257, 258, math.MinInt, math.MaxInt} {
		for _, x := range trees()[:20] {
			x.Kind = kind
			refused(t, fmt.Sprintf("%v of kind %d", x.S, kind), x)
		}
		refused(t, fmt.Sprintf("none of kind %d", kind), api.Tree{Kind: kind})
	}
}

func TestWrongShape(t *testing.T) {
	ids := []api.Shape{of([]int{-1}), of([]int{math.MinInt}), of([]int{math.MaxInt}), of([]int{1, 2}, []int{3, -1}, []int{2}),
		of([]int{1, 2}, []int{math.MaxInt, math.MinInt, 3}, []int{3}), of([]int{1, 2}, []int{258})}
	for i, s := range append(wrong(), ids...) {
		for _, kind := range kinds() {
			for _, n := range []int{0, 1, len(s.Ids), 2*len(s.Ids) - 1, 2 * len(s.Ids)} {
				refused(t, fmt.Sprintf("tree %d of kind %d, %d points", i, kind, n), api.Tree{Kind: kind, S: s, Points: points(max(n, 0))})
			}
		}
	}
}

func TestNoMember(t *testing.T) {
	for _, kind := range kinds() {
		for _, s := range []api.Shape{{}, of([]int{}), of(nil, [][]int{}...)} {
			for n := range 3 {
				refused(t, fmt.Sprintf("none of kind %d, %d points", kind, n), api.Tree{Kind: kind, S: s, Points: points(n)})
			}
		}
	}
}

func TestWrongPoints(t *testing.T) {
	for _, x := range append(trees(), great(t)[:1]...) {
		all := x.Points
		for _, n := range []int{0, 1, len(x.S.Ids), len(all) - 1, len(all) + 1, 2*len(all) + 1} {
			if n != len(all) {
				x.Points = points(n)
				refused(t, fmt.Sprintf("%v of kind %d, %d points", x.S, x.Kind, n), x)
			}
		}
		for place := range all {
			x.Points = slices.Clone(all)
			x.Points[place] = api.Key{}
			refused(t, fmt.Sprintf("%v of kind %d, no point of %d", x.S, x.Kind, place), x)
		}
	}
}

// A tree's points are as many as those of its kind: not as those of the other one.
func TestPointsOfTheOtherKind(t *testing.T) {
	s := of([]int{1, 2, 3}, []int{3})
	refused(t, "four of RedK", api.Tree{Kind: api.RedK, S: s, Points: points(4)})
	refused(t, "five of TwoK", api.Tree{Kind: api.TwoK, S: s, Points: points(5)})
}

func TestSumsKnown(t *testing.T) {
	s := of([]int{3, 300, 70000}, []int{3})
	for i, x := range []struct {
		t    api.Tree
		want []string
	}{
		{api.Tree{Kind: api.TwoK, S: of([]int{7}), Points: []api.Key{{9}}}, []string{
			"e43c628184a34d3d705a0e600972482675cd64d91af1cc059f74f8446ef4b272"}},
		{api.Tree{Kind: api.RedK, S: of([]int{7}), Points: []api.Key{{9}}}, []string{
			"e43c628184a34d3d705a0e600972482675cd64d91af1cc059f74f8446ef4b272"}},
		{api.Tree{Kind: api.TwoK, S: s, Points: []api.Key{{1}, {2}, {3}, {4}}}, []string{
			"2d99c0cfa61c9f97c2d04036ccbc19065c9d80a577761d75e961667af73d87c5",
			"911364f52a1c00fdb34e7ddb4f48e0dddbe87597405412ba3c54908d00538d93",
			"2e8a4e0cf6acb5090f932a403b00f1a7bbe1097adf8a8f174e8f755771303820",
			"77ce5ee9afc438c12d14a36f385ca561a5263e49045ed0f1c7e630ba80497d8a"}},
		{api.Tree{Kind: api.RedK, S: s, Points: []api.Key{{1}, {2}, {3}, {4}, {5}}}, []string{
			"2d99c0cfa61c9f97c2d04036ccbc19065c9d80a577761d75e961667af73d87c5",
			"911364f52a1c00fdb34e7ddb4f48e0dddbe87597405412ba3c54908d00538d93",
			"528f08f0139c505d25c618b45a4099bb87fffab793b55f76fcb9a16fe6c15eff",
			"b8eb1a02be66e0d4ad1bae5b92b30966b2c0d516e254821526a0d2792c572e3d",
			"2725f9ddc10e326197f1a653836b5e67015cbfe8a8e57f88141e14f1b9059734"}},
	} {
		var want []api.Key
		for _, k := range x.want {
			want = append(want, key(t, k))
		}
		if got, e := tag.Sums(x.t); !slices.Equal(got, want) || e != api.OK {
			t.Errorf("%d: got %x, %d", i, got, e)
		}
		if got, e := tag.Sum(x.t); got != want[len(want)-1] || e != api.OK {
			t.Errorf("%d: got %x, %d", i, got, e)
		}
	}
}

func TestSums(t *testing.T) {
	for _, x := range append(trees(), great(t)...) {
		want := wanted(x)
		if got, e := tag.Sums(x); !slices.Equal(got, want) || e != api.OK {
			t.Errorf("%v of kind %d: got %x, %d", x.S, x.Kind, got, e)
		}
		if got, e := tag.Sum(x); got != want[len(want)-1] || e != api.OK {
			t.Errorf("%v of kind %d: got %x, %d", x.S, x.Kind, got, e)
		}
	}
}

// A point is a part of the sums of its node, and of those above, and of no others.
func TestSumsOfAnotherPoint(t *testing.T) {
	for _, kind := range kinds() {
		x := pointed(kind, of(rising(7, 0, 5), []int{2, 3, 2}, []int{3}))
		all := grown(kind, x.S)
		was, _ := tag.Sums(x)
		for place := range all {
			above := []int{place}
			for _, y := range all {
				if slices.ContainsFunc(y.kids, func(k *thing) bool { return slices.Contains(above, k.place) }) {
					above = append(above, y.place)
				}
			}
			for bit := range 256 {
				y := clone(x)
				y.Points[place][bit/8] ^= 1 << (bit % 8)
				got, e := tag.Sums(y)
				if e != api.OK {
					t.Fatal(e)
				}
				for i := range got {
					if (got[i] == was[i]) == slices.Contains(above, i) {
						t.Fatalf("kind %d, bit %d of point %d: sum %d", kind, bit, place, i)
					}
				}
			}
		}
	}
}

// Members, how they are grouped, and which nodes are red, are parts of the sum.
func TestSumsApart(t *testing.T) {
	hasThree := func(groups []int) bool { return slices.Contains(groups, 3) }
	met := map[api.Key]string{}
	for n := 1; n <= 9; n++ {
		for _, l := range levels(n) {
			for _, kind := range kinds() {
				if kind == api.RedK && !slices.ContainsFunc(l, hasThree) {
					continue
				}
				for _, ids := range [][]int{rising(n, 0, 1), rising(n, 1, 1), rising(n, 2, 256), rising(n, 3, 1000)} {
					x := pointed(kind, of(ids, l...))
					for i := range x.Points {
						x.Points[i] = api.Key{31: 1}
					}
					got, e := tag.Sum(x)
					if met[got] != "" || e != api.OK {
						t.Errorf("%v of kind %d has the sum of %s, %d", x.S, kind, met[got], e)
					}
					met[got] = fmt.Sprint(x.S, kind)
				}
			}
		}
	}
}

// The kind itself is no part of it: where no group has three both kinds have the same nodes.
func TestSumOfBothKinds(t *testing.T) {
	for _, s := range []api.Shape{of([]int{4}), of([]int{4, 8}, []int{2}), of(rising(64, 3, 3), upon(64, 2)...)} {
		two, e := tag.Sums(pointed(api.TwoK, s))
		if e != api.OK {
			t.Fatal(e)
		}
		if got, e := tag.Sums(pointed(api.RedK, s)); !slices.Equal(got, two) || e != api.OK {
			t.Errorf("%v: got %x, %d, instead of %x", s, got, e, two)
		}
	}
}

func TestLeafKnown(t *testing.T) {
	s := of([]int{10, 20, 30, 40, 50}, []int{3, 2}, []int{2})
	for i, id := range s.Ids {
		if got, e := tag.Leaf(pointed(api.TwoK, s), id); got != []int{0, 1, 2, 4, 5}[i] || e != api.OK {
			t.Errorf("%d: got %d, %d", id, got, e)
		}
		if got, e := tag.Leaf(pointed(api.RedK, s), id); got != []int{0, 1, 3, 5, 6}[i] || e != api.OK {
			t.Errorf("%d of RedK: got %d, %d", id, got, e)
		}
	}
}

func TestLeaf(t *testing.T) {
	for _, x := range append(trees(), great(t)...) {
		for i, y := range grown(x.Kind, x.S) {
			if y.label == "leaf" && (i%7 == 0 || len(x.S.Ids) < 100) {
				if got, e := tag.Leaf(x, y.id); got != i || e != api.OK {
					t.Fatalf("%v of kind %d, %d: got %d, %d, instead of %d", x.S, x.Kind, y.id, got, e, i)
				}
			}
		}
	}
}

// What is no Id at all is no member either.
func TestLeafOfNone(t *testing.T) {
	for _, x := range trees() {
		for _, id := range []int{0, 5, 9, 11, 15, 101, 110, api.MaxId, -1, -10, api.MaxId + 1, math.MinInt, math.MaxInt} {
			if got, e := tag.Leaf(x, id); got != 0 || e != api.ErrNone {
				t.Errorf("%v of kind %d, %d: got %d, %d", x.S, x.Kind, id, got, e)
			}
		}
	}
}

// Each part of a tree counts, whether it may be or not.
func TestSame(t *testing.T) {
	for _, x := range append(trees(), api.Tree{Kind: -5, S: of([]int{9, 9, -1}, []int{7}, nil, []int{0}), Points: make([]api.Key, 3)}) {
		if !tag.Same(x, x) || !tag.Same(x, clone(x)) {
			t.Errorf("%v: the same are not the same", x)
		}
		var others []api.Tree
		add := func(change func(y *api.Tree)) {
			y := clone(x)
			change(&y)
			others = append(others, y)
		}
		add(func(y *api.Tree) { y.Kind++ })
		add(func(y *api.Tree) { y.Kind = 3 - y.Kind })
		add(func(y *api.Tree) { y.S.Ids = append(y.S.Ids, 0) })
		add(func(y *api.Tree) { y.S.Ids = y.S.Ids[1:] })
		add(func(y *api.Tree) { y.S.Levels = append(y.S.Levels, nil) })
		add(func(y *api.Tree) { y.Points = append(y.Points, api.Key{}) })
		add(func(y *api.Tree) { y.Points = y.Points[1:] })
		add(func(y *api.Tree) { y.Points = y.Points[:len(y.Points)-1] })
		add(func(y *api.Tree) { y.Points = nil })
		add(func(y *api.Tree) { y.S = api.Shape{} })
		for i := range x.S.Ids {
			add(func(y *api.Tree) { y.S.Ids[i]++ })
		}
		for k, groups := range x.S.Levels {
			add(func(y *api.Tree) { y.S.Levels[k] = append(y.S.Levels[k], 0) })
			for i := range groups {
				add(func(y *api.Tree) { y.S.Levels[k][i]-- })
			}
		}
		for i := range x.Points {
			for _, at := range []int{0, 13, 31} {
				add(func(y *api.Tree) { y.Points[i][at] ^= 64 })
			}
		}
		for i, y := range others {
			if tag.Same(x, y) || tag.Same(y, x) {
				t.Errorf("%v: change %d is the same", x, i)
			}
		}
	}
}

// R3: a list without elements is nil or empty.
func TestSameOfNothing(t *testing.T) {
	a := api.Tree{Kind: 1, S: of(nil, nil)}
	b := api.Tree{Kind: 1, S: of([]int{}, []int{}), Points: []api.Key{}}
	c, d := api.Tree{Kind: 1}, api.Tree{Kind: 1, S: of(nil, [][]int{}...)}
	if !tag.Same(a, b) || !tag.Same(b, a) || !tag.Same(c, d) || !tag.Same(d, c) || !tag.Same(api.Tree{}, api.Tree{}) {
		t.Error("without elements is not the same")
	}
	if tag.Same(a, c) || tag.Same(d, b) {
		t.Error("a level of no groups is none")
	}
}

// P13.2

func TestWriteKnown(t *testing.T) {
	for i, x := range []struct {
		t    api.Tree
		head []byte
	}{
		{api.Tree{Kind: api.TwoK, S: of([]int{0}), Points: points(1)}, []byte{1, 0, 1, 0, 0, 0, 0, 0}},
		{api.Tree{Kind: api.RedK, S: of([]int{api.MaxId}), Points: points(1)}, []byte{2, 0, 1, 0, 16, 0, 0, 0}},
		{api.Tree{Kind: api.TwoK, S: of([]int{5, 258}, []int{2}), Points: points(3)}, []byte{1, 0, 2, 0, 0, 0, 5, 0, 0, 1, 2, 1, 0, 1, 2}},
		{api.Tree{Kind: api.RedK, S: of([]int{1, 2, 3, 4, 66051}, []int{2, 3}, []int{2}), Points: points(9)}, []byte{
			2, 0, 5, 0, 0, 0, 1, 0, 0, 0, 2, 0, 0, 0, 3, 0, 0, 0, 4, 0, 1, 2, 3, 2, 0, 2, 2, 3, 0, 1, 2}},
	} {
		want := slices.Clone(x.head)
		for _, p := range x.t.Points {
			want = append(want, p[:]...)
		}
		if got, e := tag.Write(x.t); !bytes.Equal(got, want) || e != api.OK {
			t.Errorf("%d: got %v, %d, instead of %v", i, got, e, want)
		}
		if got, at, e := tag.Read(want, 0); !same(got, x.t) || at != len(want) || e != api.OK {
			t.Errorf("%d: got %v, %d, %d", i, got, at, e)
		}
	}
}

func TestWriteAndRead(t *testing.T) {
	for _, x := range append(trees(), great(t)...) {
		want := written(x)
		if got, e := tag.Write(x); !bytes.Equal(got, want) || e != api.OK {
			t.Fatalf("%v of kind %d: got %v, %d", x.S, x.Kind, got, e)
		}
		for _, ahead := range [][]byte{nil, {9}, make([]byte, 300)} {
			for _, behind := range [][]byte{nil, {1}, want, make([]byte, 70)} {
				got, at, e := tag.Read(slices.Concat(ahead, want, behind), len(ahead))
				if !tag.Same(got, x) || !same(got, x) || at != len(ahead)+len(want) || e != api.OK {
					t.Fatalf("%v of kind %d, %d bytes ahead, %d behind: got %v, %d, %d", x.S, x.Kind, len(ahead), len(behind), got, at, e)
				}
			}
		}
	}
}

func TestReadAtNoPlace(t *testing.T) {
	b := written(pointed(api.RedK, of([]int{1, 2, 3}, []int{3})))
	for _, x := range [][]byte{nil, {}, {3}, b[:5], b} {
		for _, at := range []int{-1, -len(b), len(x) + 1, 2*len(x) + 2, math.MinInt, math.MaxInt} {
			notRead(t, "no place", x, at, api.ErrArg)
		}
		notRead(t, "the end", x, len(x), api.ErrShort)
	}
}

// At each place of its text, but the end, a text is too short, wherever it stands.
func TestReadShort(t *testing.T) {
	for _, x := range append(trees(), great(t)[:2]...) {
		b := written(x)
		for long := range b {
			notRead(t, fmt.Sprint(x.Kind, x.S), b[:long], 0, api.ErrShort)
			if long%5 == 0 {
				notRead(t, fmt.Sprint(x.Kind, x.S), append(b[len(b)-3:len(b):len(b)], b[:long]...), 3, api.ErrShort)
			}
		}
	}
}

// A text that tells more than there is takes nothing from behind b.
func TestReadFarTooShort(t *testing.T) {
	for i, b := range [][]byte{
		{1, 255, 255},
		{1, 255, 255, 0, 0, 0, 1},
		{1, 0, 1, 0, 0, 0, 5, 255},
		{1, 0, 1, 0, 0, 0, 5, 255, 0},
		{1, 0, 1, 0, 0, 0, 5, 1, 255, 255},
		{1, 0, 2, 0, 0, 0, 5, 0, 0, 0, 6, 1, 255, 255, 2},
		{1, 0, 2, 0, 0, 0, 5, 0, 0, 0, 6, 2, 0, 1, 2},
		{1, 0, 0, 255},
	} {
		notRead(t, fmt.Sprint(i), b, 0, api.ErrShort)
		notRead(t, fmt.Sprint(i), append(b, 7, 7, 7)[:len(b)], 0, api.ErrShort)
	}
}

func TestReadWrongShape(t *testing.T) {
	for i, s := range wrong() {
		for _, kind := range kinds() {
			head := bare(kind, s)
			for _, n := range []int{0, 1, 31, 32, 32 * len(s.Ids), 64 * len(s.Ids), 64*len(s.Ids) - 32} {
				if n >= 0 {
					notRead(t, fmt.Sprintf("tree %d of kind %d, %d bytes behind", i, kind, n), append(slices.Clone(head), bytes.Repeat([]byte{5}, n)...), 0, api.ErrForm)
				}
			}
			for long := range min(len(head), 300) {
				notRead(t, fmt.Sprintf("tree %d of kind %d, %d bytes", i, kind, long), head[:long], 0, api.ErrShort)
			}
			notRead(t, fmt.Sprintf("tree %d of kind %d, a byte too few", i, kind), head[:len(head)-1], 0, api.ErrShort)
		}
	}
}

// A wrong kind is told behind the last level, ahead of the points.
func TestReadWrongKind(t *testing.T) {
	for _, x := range append(trees()[:30], pointed(api.TwoK, api.Shape{})) {
		b, head := written(x), len(bare(x.Kind, x.S))
		for _, kind := range []byte{0, 3, 4, 127, 128, 129, 130, 255} {
			b[0] = kind
			for long := range b {
				want := api.ErrForm
				if long < head {
					want = api.ErrShort
				}
				notRead(t, fmt.Sprintf("kind %d, %v, %d bytes", kind, x.S, long), b[:long], 0, want)
			}
			notRead(t, fmt.Sprintf("kind %d, %v", kind, x.S), b, 0, api.ErrForm)
		}
	}
}

func TestReadOfNoMember(t *testing.T) {
	for _, kind := range kinds() {
		b := []byte{byte(kind), 0, 0, 0}
		notRead(t, "none", b, 0, api.ErrForm)
		notRead(t, "none", append(b, bytes.Repeat([]byte{1}, 64)...), 0, api.ErrForm)
		notRead(t, "none", b[:3], 0, api.ErrShort)
	}
}

// That a point is none is told behind that one is missing.
func TestReadNoPoint(t *testing.T) {
	for _, x := range trees() {
		head := len(bare(x.Kind, x.S))
		for place := range x.Points {
			y := clone(x)
			y.Points[place] = api.Key{}
			b := written(y)
			what := fmt.Sprintf("%v of kind %d, no point of %d", x.S, x.Kind, place)
			notRead(t, what, b, 0, api.ErrForm)
			notRead(t, what, append(b, 1, 2, 3), 0, api.ErrForm)
			notRead(t, what, b[:len(b)-1], 0, api.ErrShort)
			notRead(t, what, b[:head], 0, api.ErrShort)
			b[head+32*place+31] = 1
			if got, at, e := tag.Read(b, 0); got.Points[place] != (api.Key{31: 1}) || at != len(b) || e != api.OK {
				t.Errorf("%s, but one bit: got %v, %d, %d", what, got, at, e)
			}
		}
	}
}

// P13.3

func TestWhatIsWrittenIsRead(t *testing.T) {
	var all []byte
	list := append(trees(), great(t)...)
	for _, x := range list {
		b, e := tag.Write(x)
		if e != api.OK {
			t.Fatal(e)
		}
		all = append(all, b...)
	}
	at := 0
	for _, x := range list {
		got, next, e := tag.Read(all, at)
		if !tag.Same(got, x) || e != api.OK {
			t.Fatalf("%v of kind %d: got %v, %d", x.S, x.Kind, got, e)
		}
		was, _ := tag.Sum(x)
		if sum, e := tag.Sum(got); sum != was || e != api.OK {
			t.Errorf("%v of kind %d: its sum is %x, %d, and was %x", x.S, x.Kind, sum, e, was)
		}
		if b, e := tag.Write(got); !bytes.Equal(b, all[at:next]) || e != api.OK {
			t.Errorf("%v of kind %d: written again %v, %d", x.S, x.Kind, b, e)
		}
		at = next
	}
	if at != len(all) {
		t.Errorf("%d of %d bytes were read", at, len(all))
	}
}

// Whatever stands there, what is read may be, and is, written, what stood there; what is not read tells nothing.
func TestReadOfAnything(t *testing.T) {
	r := rand.New(rand.NewPCG(13, 3))
	list, read := trees(), 0
	for range 40000 {
		b := written(list[r.IntN(len(list))])
		for range r.IntN(4) {
			b[r.IntN(min(len(b), 40))] = byte(r.IntN(6))
		}
		for range r.IntN(2) {
			b[r.IntN(len(b))] = byte(r.Uint32())
		}
		b = b[:len(b)-r.IntN(2)*r.IntN(len(b))]
		at := r.IntN(2) * r.IntN(len(b)+1)
		got, next, e := tag.Read(b, at)
		if e != api.OK {
			if !same(got, api.Tree{}) || next != 0 || e != api.ErrShort && e != api.ErrForm {
				t.Fatalf("%v at %d: got %v, %d, %d", b, at, got, next, e)
			}
			continue
		}
		read++
		if again, e := tag.Write(got); !bytes.Equal(again, b[at:next]) || e != api.OK || tag.Check(got) != api.OK {
			t.Fatalf("%v at %d: written again %v, %d", b, at, again, e)
		}
	}
	if read < 1000 {
		t.Errorf("no more than %d were read", read)
	}
}

// No two trees have the same text.
func TestTextsApart(t *testing.T) {
	met := map[string]bool{}
	for _, x := range append(trees(), great(t)...) {
		b, e := tag.Write(x)
		if met[string(b)] || e != api.OK {
			t.Errorf("%v of kind %d: met before, %d", x.S, x.Kind, e)
		}
		met[string(b)] = true
	}
}

// R2

// roomy is the same tree in lists with room behind them, and a way to see whether anything was written into.
func roomy(x api.Tree) (api.Tree, func() bool) {
	row := func(l []int) []int { return append(slices.Clone(l), -7, -7, -7, -7)[:len(l)] }
	out := api.Tree{Kind: x.Kind, S: of(row(x.S.Ids)), Points: append(slices.Clone(x.Points), api.Key{7}, api.Key{7})[:len(x.Points)]}
	for _, groups := range x.S.Levels {
		out.S.Levels = append(out.S.Levels, row(groups))
	}
	kept := func(l []int) bool { return slices.Equal(l[len(l):len(l)+4], []int{-7, -7, -7, -7}) }
	was := fmt.Sprint(x)
	return out, func() bool {
		n := len(out.Points)
		ok := kept(out.S.Ids) && out.Points[:n+2][n] == api.Key{7} && out.Points[:n+2][n+1] == api.Key{7} && fmt.Sprint(out) == was
		for _, groups := range out.S.Levels {
			ok = ok && kept(groups)
		}
		return ok
	}
}

func TestNothingIsChanged(t *testing.T) {
	for _, first := range trees() {
		x, kept := roomy(first)
		tag.Check(x)
		tag.Sums(x)
		tag.Sum(x)
		for _, id := range []int{5, 10, 20} {
			tag.Leaf(x, id)
		}
		tag.Write(x)
		tag.Same(x, first)
		if !kept() {
			t.Fatalf("%v of kind %d: it was changed: %v", first.S, first.Kind, x)
		}
		b := append(written(first), 1, 2, 3)
		was := slices.Clone(b)
		tag.Read(b[:len(b)-3], 0)
		if !bytes.Equal(b, was) {
			t.Fatalf("%v of kind %d: its text was changed: %v", first.S, first.Kind, b)
		}
	}
}

// What is answered shares nothing with what was handed in.
func TestNothingIsShared(t *testing.T) {
	for _, x := range trees() {
		y := clone(x)
		sums, _ := tag.Sums(y)
		b, _ := tag.Write(y)
		wasSums, wasB := slices.Clone(sums), slices.Clone(b)
		clear(y.S.Ids)
		clear(y.Points)
		for _, groups := range y.S.Levels {
			clear(groups)
		}
		if !slices.Equal(sums, wasSums) || !bytes.Equal(b, wasB) {
			t.Fatalf("%v of kind %d: an answer is the tree's", x.S, x.Kind)
		}
		got, _, _ := tag.Read(b, 0)
		clear(b[:cap(b)])
		if !same(got, x) {
			t.Fatalf("%v of kind %d: what was read is the text's: %v", x.S, x.Kind, got)
		}
	}
}

// Each answer is new, and none keeps anything for the next one.
func TestAnswersAreApart(t *testing.T) {
	for _, x := range trees() {
		text := written(x)
		for range 2 {
			sums, e := tag.Sums(x)
			if !slices.Equal(sums, wanted(x)) || e != api.OK {
				t.Fatalf("%v of kind %d: got %x, %d", x.S, x.Kind, sums, e)
			}
			clear(sums[:cap(sums)])
			b, e := tag.Write(x)
			if !bytes.Equal(b, text) || e != api.OK {
				t.Fatalf("%v of kind %d: got %v, %d", x.S, x.Kind, b, e)
			}
			clear(b[:cap(b)])
			got, _, e := tag.Read(text, 0)
			if !same(got, x) || e != api.OK {
				t.Fatalf("%v of kind %d: got %v, %d", x.S, x.Kind, got, e)
			}
			clear(got.S.Ids[:cap(got.S.Ids)])
			clear(got.Points[:cap(got.Points)])
			for _, groups := range got.S.Levels {
				clear(groups[:cap(groups)])
			}
		}
	}
}

// The lists of what is read don't run into each other.
func TestListsAreApart(t *testing.T) {
	for _, x := range trees() {
		got, _, e := tag.Read(written(x), 0)
		if e != api.OK {
			t.Fatal(e)
		}
		_ = append(got.S.Ids, 99, 99, 99)
		for _, groups := range got.S.Levels {
			_ = append(groups, 99, 99, 99)
		}
		_ = append(got.Points, api.Key{99}, api.Key{99})
		if !same(got, x) {
			t.Errorf("got %v, instead of %v", got, x)
		}
	}
}
