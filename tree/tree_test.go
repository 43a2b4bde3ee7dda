package tree_test

import (
	"fmt"
	"math"
	"math/rand/v2"
	"slices"
	"testing"

	"coterie/api"
	"coterie/tree"
)

const most = 1000

func of(ids []int, levels ...[]int) api.Shape { return api.Shape{Ids: ids, Levels: levels} }

// rising are so many Ids, from one on, by steps.
func rising(n, from, step int) []int {
	ids := make([]int, n)
	for i := range ids {
		ids[i] = from + i*step
	}
	return ids
}

func clone(s api.Shape) api.Shape {
	out := api.Shape{Ids: slices.Clone(s.Ids), Levels: slices.Clone(s.Levels)}
	for k, groups := range out.Levels {
		out.Levels[k] = slices.Clone(groups)
	}
	return out
}

// same holds trees against each other by what they are told as, so that a list that is nil is one that is empty.
func same(a, b api.Shape) bool { return fmt.Sprint(a) == fmt.Sprint(b) }

// splits are all ways to have n in groups of two and three.
func splits(n int) [][]int {
	if n == 0 {
		return [][]int{nil}
	}
	var all [][]int
	for _, first := range []int{2, 3} {
		if first <= n {
			for _, rest := range splits(n - first) {
				all = append(all, append([]int{first}, rest...))
			}
		}
	}
	return all
}

// levels are all levels that may stand above n leaves.
func levels(n int) [][][]int {
	if n < 2 {
		return [][][]int{nil}
	}
	var all [][][]int
	for _, low := range splits(n) {
		for _, rest := range levels(len(low)) {
			all = append(all, append([][]int{low}, rest...))
		}
	}
	return all
}

// shapes are all trees of n members.
func shapes(n int) []api.Shape {
	var all []api.Shape
	for _, l := range levels(n) {
		all = append(all, api.Shape{Ids: rising(n, 10, 10), Levels: l})
	}
	return all
}

// wrong are trees that may not be, each by one thing.
func wrong() []api.Shape {
	const full = api.MaxId
	big, _ := tree.Build(rising(most, 0, 1)...)
	twice := clone(big)
	twice.Ids[999] = twice.Ids[998]
	return []api.Shape{
		of([]int{-1}),
		of([]int{full + 1}),
		of([]int{math.MinInt}),
		of([]int{math.MaxInt}),
		of([]int{-1, 1}, []int{2}),
		of([]int{1, full + 1}, []int{2}),
		of([]int{2, 1}, []int{2}),
		of([]int{1, 1}, []int{2}),
		of([]int{1, 3, 2}, []int{3}),
		of([]int{1, 2, 2}, []int{3}),
		of([]int{0, 1, 2, 1}, []int{2, 2}, []int{2}),
		twice,
		// of none, or of one, there is no level
		of(nil, nil),
		of(nil, []int{}),
		of(nil, []int{0}),
		of(nil, []int{2}),
		of(nil, nil, nil),
		of([]int{1}, nil),
		of([]int{1}, []int{1}),
		of([]int{1}, []int{2}),
		// of more there is one
		of([]int{1, 2}),
		of([]int{1, 2, 3}),
		of([]int{1, 2, 3, 4}),
		of([]int{1, 2}, nil),
		// groups of another number
		of([]int{1, 2}, []int{1, 1}, []int{2}),
		of([]int{1, 2, 3}, []int{1, 2}, []int{2}),
		of([]int{1, 2, 3}, []int{2, 1}, []int{2}),
		of([]int{1, 2, 3, 4}, []int{4}),
		of([]int{1, 2, 3, 4, 5}, []int{5}),
		of([]int{1, 2}, []int{0, 2}, []int{2}),
		of([]int{1, 2}, []int{2, 0}, []int{2}),
		of([]int{1, 2}, []int{3, -1}, []int{2}),
		of([]int{1, 2}, []int{-2}),
		of([]int{1, 2}, []int{math.MaxInt, math.MinInt, 3}, []int{3}),
		of([]int{1, 2, 3, 4}, []int{2, 2}, []int{1, 1}, []int{2}),
		of(rising(8, 1, 1), []int{2, 2, 2, 2}, []int{4}),
		of(rising(8, 1, 1), []int{2, 2, 2, 2}, []int{3, 1}, []int{2}),
		// too many, or too few, together
		of([]int{1, 2}, []int{3}),
		of([]int{1, 2, 3}, []int{2}),
		of([]int{1, 2, 3}, []int{2, 2}, []int{2}),
		of([]int{1, 2, 3, 4, 5}, []int{2, 2}, []int{2}),
		of([]int{1, 2, 3, 4}, []int{2, 3}, []int{2}),
		of([]int{1, 2, 3, 4}, []int{2, 2}, []int{3}),
		of(rising(6, 1, 1), []int{2, 2, 2}, []int{2}),
		of(rising(8, 1, 1), []int{2, 2, 2, 2}, []int{2, 3}, []int{2}),
		// a level too few, or too many
		of([]int{1, 2, 3, 4}, []int{2, 2}),
		of(rising(8, 1, 1), []int{2, 2, 2, 2}, []int{2, 2}),
		of([]int{1, 2}, []int{2}, nil),
		of([]int{1, 2}, []int{2}, []int{1}),
		of([]int{1, 2}, []int{2}, []int{2}),
		of([]int{1, 2, 3, 4}, []int{2, 2}, []int{2}, []int{1}),
		of([]int{1, 2, 3, 4}, []int{2, 2}, []int{2}, nil),
		of([]int{1, 2, 3, 4}, nil, []int{2, 2}, []int{2}),
		of([]int{1, 2}, []int{2}, []int{1}, []int{1}),
		// one member too many, in a tree that else might be
		of(append(slices.Clone(big.Ids), most), upon(most+1)...),
		of(rising(2000, 0, 1), upon(2000)...),
	}
}

// upon are levels above so many leaves: threes, and what is left over.
func upon(n int) [][]int {
	var all [][]int
	for n > 1 {
		var groups []int
		for left := n; left > 0; {
			g := 3
			if left == 2 || left == 4 {
				g = 2
			}
			groups, left = append(groups, g), left-g
		}
		all, n = append(all, groups), len(groups)
	}
	return all
}

// thing is a leaf, or a group with what is below it: the tree, built once more, just as the words tell it.
type thing struct {
	id   int
	kids []*thing
	up   *thing
}

// whole is a tree of things (nil of none).
type whole struct{ root *thing }

func (x *thing) under(kids ...*thing) *thing {
	x.kids = kids
	for _, k := range kids {
		k.up = x
	}
	return x
}

func grown(s api.Shape) *whole {
	row := []*thing{}
	for _, id := range s.Ids {
		row = append(row, &thing{id: id})
	}
	for _, groups := range s.Levels {
		var next []*thing
		for _, n := range groups {
			next = append(next, new(thing).under(row[:n:n]...))
			row = row[n:]
		}
		row = next
	}
	if len(row) == 0 {
		return &whole{}
	}
	if len(row) != 1 {
		panic("more than one root")
	}
	return &whole{row[0]}
}

// rows are the root, what is below it, and so on, down to the leaves.
func (w *whole) rows() [][]*thing {
	if w.root == nil {
		return nil
	}
	all := [][]*thing{{w.root}}
	for {
		var next []*thing
		for _, x := range all[len(all)-1] {
			next = append(next, x.kids...)
		}
		if len(next) == 0 {
			return all
		}
		all = append(all, next)
	}
}

func (w *whole) leaves() []*thing {
	r := w.rows()
	if len(r) == 0 {
		return nil
	}
	return r[len(r)-1]
}

func (w *whole) shape() api.Shape {
	s := api.Shape{}
	for _, x := range w.leaves() {
		s.Ids = append(s.Ids, x.id)
	}
	r := w.rows()
	for k := len(r) - 2; k >= 0; k-- {
		var groups []int
		for _, x := range r[k] {
			groups = append(groups, len(x.kids))
		}
		s.Levels = append(s.Levels, groups)
	}
	return s
}

func (w *whole) insert(id int) {
	leaf := &thing{id: id}
	all := w.leaves()
	if len(all) == 0 {
		w.root = leaf
		return
	}
	if len(all) == 1 {
		pair := []*thing{all[0], leaf}
		slices.SortFunc(pair, func(a, b *thing) int { return a.id - b.id })
		w.root = new(thing).under(pair...)
		return
	}
	if id < all[0].id {
		g := all[0].up
		g.under(append([]*thing{leaf}, g.kids...)...)
		w.four(g)
		return
	}
	last := all[0]
	for _, x := range all {
		if x.id < id {
			last = x
		}
	}
	w.behind(last, leaf)
}

// behind puts something into a thing's group, just behind it.
func (w *whole) behind(ahead, x *thing) {
	g := ahead.up
	g.under(slices.Insert(slices.Clone(g.kids), slices.Index(g.kids, ahead)+1, x)...)
	w.four(g)
}

func (w *whole) four(g *thing) {
	if len(g.kids) < 4 {
		return
	}
	second := new(thing).under(g.kids[2], g.kids[3])
	g.under(g.kids[0], g.kids[1])
	if g.up == nil {
		w.root = new(thing).under(g, second)
		return
	}
	w.behind(g, second)
}

func (w *whole) remove(id int) {
	all := w.leaves()
	leaf := all[slices.IndexFunc(all, func(x *thing) bool { return x.id == id })]
	switch len(all) {
	case 1:
		w.root = nil
	case 2:
		w.root = all[1-slices.Index(all, leaf)]
		w.root.up = nil
	default:
		w.without(leaf)
	}
}

// without takes something out of its group.
func (w *whole) without(x *thing) {
	g := x.up
	g.under(slices.DeleteFunc(slices.Clone(g.kids), func(y *thing) bool { return y == x })...)
	if len(g.kids) > 1 {
		return
	}
	if g.up == nil {
		w.root = g.kids[0]
		w.root.up = nil
		return
	}
	all, at := g.up.kids, slices.Index(g.up.kids, g)
	if at > 0 {
		if n := all[at-1]; len(n.kids) == 3 {
			g.under(n.kids[2], g.kids[0])
			n.under(n.kids[:2]...)
		} else {
			n.under(append(slices.Clone(n.kids), g.kids...)...)
			w.without(g)
		}
		return
	}
	if n := all[1]; len(n.kids) == 3 {
		g.under(g.kids[0], n.kids[0])
		n.under(n.kids[1:]...)
	} else {
		n.under(append(slices.Clone(g.kids), n.kids...)...)
		w.without(g)
	}
}

// noShape asks that what was refused tells nothing else.
func noShape(t *testing.T, what string, s api.Shape, e, want api.Errno) {
	t.Helper()
	if !same(s, api.Shape{}) || e != want {
		t.Errorf("%s: got %v, %d, instead of %d", what, s, e, want)
	}
}

func noList(t *testing.T, what string, l []int, e, want api.Errno) {
	t.Helper()
	if len(l) != 0 || e != want {
		t.Errorf("%s: got %v, %d, instead of %d", what, l, e, want)
	}
}

func built(t *testing.T, ids ...int) api.Shape {
	t.Helper()
	s, e := tree.Build(ids...)
	if e != api.OK {
		t.Fatal(e)
	}
	return s
}

// P10.1

func TestCheck(t *testing.T) {
	for n := range 19 {
		for _, s := range shapes(n) {
			if e := tree.Check(s); e != api.OK {
				t.Errorf("%v: got %d", s, e)
			}
		}
	}
	for i, s := range []api.Shape{
		{},
		{Ids: []int{}, Levels: [][]int{}},
		of([]int{0}),
		of([]int{api.MaxId}),
		{Ids: []int{7}, Levels: [][]int{}},
		of([]int{0, api.MaxId}, []int{2}),
		of([]int{api.MaxId - 2, api.MaxId - 1, api.MaxId}, []int{3}),
		of(rising(most, 0, 1), upon(most)...),
		of(rising(most, api.MaxId-most+1, 1), upon(most)...),
		of(rising(most-1, 5, 1000), upon(most-1)...),
	} {
		if e := tree.Check(s); e != api.OK {
			t.Errorf("%d: got %d", i, e)
		}
	}
}

func TestCheckWrong(t *testing.T) {
	for i, s := range wrong() {
		if e := tree.Check(s); e != api.ErrArg {
			t.Errorf("%d: got %d", i, e)
		}
	}
}

// All that one or two levels of few groups can say, whether it may be or not.
func TestCheckAllSmall(t *testing.T) {
	rows := [][]int{nil}
	for from := 0; len(rows[from]) < 4; from++ {
		for n := range 5 {
			rows = append(rows, append(slices.Clone(rows[from]), n))
		}
	}
	all := [][][]int{nil}
	for _, a := range rows {
		all = append(all, [][]int{a})
		for _, b := range rows[:31] {
			all = append(all, [][]int{a, b})
		}
	}
	for n := range 10 {
		may := map[string]bool{}
		for _, s := range shapes(n) {
			may[fmt.Sprint(s.Levels)] = true
		}
		for _, l := range all {
			want := api.ErrArg
			if may[fmt.Sprint(l)] {
				want = api.OK
			}
			if e := tree.Check(of(rising(n, 3, 2), l...)); e != want {
				t.Fatalf("%d members, %v: got %d", n, l, e)
			}
		}
	}
}

// Of whatever Ids: those that don't rise, or may not be, are counted too.
func TestFind(t *testing.T) {
	for _, ids := range [][]int{
		nil, {}, {5}, {0}, {5, 6}, {1, 3, 5, 7, 9}, rising(most, 0, 3),
		{9, 7, 5, 3, 1}, {5, 5, 5}, {3, 9, 1, 7, 5, 9}, {-4, 2, -4}, {math.MaxInt, 2, math.MinInt}, {api.MaxId, api.MaxId + 1}, rising(3000, 0, -1), rising(1500, 0, 1),
	} {
		asked := []int{-5, -4, -1, 0, 1, 2, 3, 4, 5, 6, 7, 8, 9, 10, 2996, 2997, 2998, api.MaxId, api.MaxId + 1, math.MinInt, math.MaxInt}
		for _, id := range asked {
			below := 0
			for _, x := range ids {
				if x < id {
					below++
				}
			}
			for _, s := range []api.Shape{of(ids), of(ids, upon(len(ids))...), of(ids, []int{0})} {
				if at, is := tree.Find(s, id); at != below || is != slices.Contains(ids, id) {
					t.Errorf("%v, %d: got %d, %v", ids, id, at, is)
				}
			}
		}
	}
}

func TestSame(t *testing.T) {
	all := append(wrong(), shapes(7)...)
	all = append(all, shapes(10)...)
	all = append(all, of([]int{1, 2, 3, 4}, []int{2, 2}, []int{2}), of([]int{1, 2, 3, 5}, []int{2, 2}, []int{2}), of([]int{0, 2, 3, 4}, []int{2, 2}, []int{2}))
	for i, a := range all {
		for j, b := range all {
			if got := tree.Same(a, clone(b)); got != same(a, b) {
				t.Errorf("%d, %d: got %v", i, j, got)
			}
		}
	}
	for i, x := range []struct {
		a, b api.Shape
		want bool
	}{
		{api.Shape{}, api.Shape{Ids: []int{}, Levels: [][]int{}}, true},
		{of(nil, nil), of(nil, []int{}), true},
		{of([]int{1}, nil, []int{2}), of([]int{1}, []int{}, []int{2}), true},
		{of(nil, nil), api.Shape{}, false},
		{of(nil, nil), of(nil, nil, nil), false},
		{of([]int{1, 2}, []int{2}), of([]int{1, 2}), false},
		{of([]int{1, 2}, []int{2}), of([]int{1, 2}, []int{2}, nil), false},
		{of([]int{1, 2}), of([]int{1}), false},
		{of([]int{1}), of(nil), false},
		{of([]int{0}), of(nil), false},
		{of(nil, []int{0}), of(nil, nil), false},
		{of([]int{1, 2}), of([]int{2, 1}), false},
		{of(nil, []int{2, 3}), of(nil, []int{3, 2}), false},
		{of(nil, []int{2}, []int{3}), of(nil, []int{3}, []int{2}), false},
		{of(nil, []int{2, 3}), of(nil, []int{2}, []int{3}), false},
	} {
		if tree.Same(x.a, x.b) != x.want || tree.Same(x.b, x.a) != x.want {
			t.Errorf("%d: not %v", i, x.want)
		}
	}
}

// P10.2

func TestInsertFew(t *testing.T) {
	for i, x := range []struct {
		s    api.Shape
		id   int
		want api.Shape
	}{
		{api.Shape{}, 0, of([]int{0})},
		{api.Shape{Ids: []int{}, Levels: [][]int{}}, api.MaxId, of([]int{api.MaxId})},
		{of([]int{5}), 9, of([]int{5, 9}, []int{2})},
		{of([]int{5}), 0, of([]int{0, 5}, []int{2})},
		{of([]int{5, 9}, []int{2}), 1, of([]int{1, 5, 9}, []int{3})},
		{of([]int{5, 9}, []int{2}), 7, of([]int{5, 7, 9}, []int{3})},
		{of([]int{5, 9}, []int{2}), 10, of([]int{5, 9, 10}, []int{3})},
		{of([]int{2, 4, 6}, []int{3}), 1, of([]int{1, 2, 4, 6}, []int{2, 2}, []int{2})},
		{of([]int{2, 4, 6}, []int{3}), 3, of([]int{2, 3, 4, 6}, []int{2, 2}, []int{2})},
		{of([]int{2, 4, 6}, []int{3}), 7, of([]int{2, 4, 6, 7}, []int{2, 2}, []int{2})},
		// between two groups it is the one of the leaf ahead
		{of([]int{2, 4, 6, 8}, []int{2, 2}, []int{2}), 5, of([]int{2, 4, 5, 6, 8}, []int{3, 2}, []int{2})},
		{of([]int{2, 4, 6, 8, 10}, []int{3, 2}, []int{2}), 7, of([]int{2, 4, 6, 7, 8, 10}, []int{2, 2, 2}, []int{3})},
		{of([]int{2, 4, 6, 8, 10}, []int{2, 3}, []int{2}), 5, of([]int{2, 4, 5, 6, 8, 10}, []int{3, 3}, []int{2})},
		// four in the middle, and four above
		{of([]int{2, 4, 6, 8, 10, 12, 14, 16, 18}, []int{3, 3, 3}, []int{3}), 9, of([]int{2, 4, 6, 8, 9, 10, 12, 14, 16, 18}, []int{3, 2, 2, 3}, []int{2, 2}, []int{2})},
		{of([]int{2, 4, 6, 8, 10, 12, 14}, []int{2, 2, 3}, []int{3}), 1, of([]int{1, 2, 4, 6, 8, 10, 12, 14}, []int{3, 2, 3}, []int{3})},
	} {
		if got, e := tree.Insert(x.s, x.id); !same(got, x.want) || e != api.OK {
			t.Errorf("%d: got %v, %d", i, got, e)
		}
	}
}

// Of all trees of so many members, at each place.
func TestInsertAll(t *testing.T) {
	for n := range 17 {
		for _, s := range shapes(n) {
			for at := range n + 1 {
				w := grown(s)
				w.insert(10*at + 5)
				got, e := tree.Insert(s, 10*at+5)
				if !same(got, w.shape()) || e != api.OK || tree.Check(got) != api.OK {
					t.Fatalf("%v, at %d: got %v, %d, instead of %v", s, at, got, e, w.shape())
				}
			}
		}
	}
}

func TestInsertRefused(t *testing.T) {
	full := built(t, rising(most, 1, 2)...)
	for _, s := range []api.Shape{{}, of([]int{5}), of([]int{5, 6}, []int{2}), built(t, 1, 2, 3, 4, 5), full} {
		for _, id := range []int{-1, api.MaxId + 1, math.MinInt, math.MaxInt, 1 << 32} {
			got, e := tree.Insert(s, id)
			noShape(t, "no id", got, e, api.ErrArg)
		}
		for _, id := range s.Ids {
			got, e := tree.Insert(s, id)
			noShape(t, "a member", got, e, api.ErrThere)
		}
	}
	for _, id := range []int{0, 2, 1000, 1998, 2000, api.MaxId} {
		got, e := tree.Insert(full, id)
		noShape(t, "one too many", got, e, api.ErrFull)
	}
	less, e := tree.Delete(full, 1001)
	if e != api.OK || len(less.Ids) != most-1 {
		t.Fatal(len(less.Ids), e)
	}
	for _, id := range []int{0, 1000, 1001, 2000} {
		if got, e := tree.Insert(less, id); len(got.Ids) != most || tree.Check(got) != api.OK || e != api.OK {
			t.Errorf("%d: got %d members, %d", id, len(got.Ids), e)
		}
	}
}

// P10.3

func TestDeleteFew(t *testing.T) {
	for i, x := range []struct {
		s    api.Shape
		id   int
		want api.Shape
	}{
		{of([]int{5}), 5, api.Shape{}},
		{of([]int{0, api.MaxId}, []int{2}), 0, of([]int{api.MaxId})},
		{of([]int{0, api.MaxId}, []int{2}), api.MaxId, of([]int{0})},
		{of([]int{1, 2, 3}, []int{3}), 2, of([]int{1, 3}, []int{2})},
		// the first one asks the one behind, that gives, or takes all
		{of([]int{1, 2, 3, 4, 5}, []int{2, 3}, []int{2}), 2, of([]int{1, 3, 4, 5}, []int{2, 2}, []int{2})},
		{of([]int{1, 2, 3, 4}, []int{2, 2}, []int{2}), 2, of([]int{1, 3, 4}, []int{3})},
		// the one ahead is asked, and no other one
		{of([]int{1, 2, 3, 4, 5, 6, 7}, []int{2, 2, 3}, []int{3}), 3, of([]int{1, 2, 4, 5, 6, 7}, []int{3, 3}, []int{2})},
		{of([]int{1, 2, 3, 4, 5, 6, 7}, []int{3, 2, 2}, []int{3}), 5, of([]int{1, 2, 3, 4, 6, 7}, []int{2, 2, 2}, []int{3})},
		{of([]int{1, 2, 3, 4, 5, 6, 7, 8}, []int{3, 2, 3}, []int{3}), 4, of([]int{1, 2, 3, 5, 6, 7, 8}, []int{2, 2, 3}, []int{3})},
		// a neighbour of another group above is none
		{of(rising(9, 1, 1), []int{2, 3, 2, 2}, []int{2, 2}, []int{2}), 6, of([]int{1, 2, 3, 4, 5, 7, 8, 9}, []int{2, 3, 3}, []int{3})},
		{of(rising(10, 1, 1), []int{2, 3, 2, 3}, []int{2, 2}, []int{2}), 6, of([]int{1, 2, 3, 4, 5, 7, 8, 9, 10}, []int{2, 3, 2, 2}, []int{2, 2}, []int{2})},
		// groups give groups, with all below them
		{of(rising(11, 1, 1), []int{2, 3, 2, 2, 2}, []int{3, 2}, []int{2}), 8, of([]int{1, 2, 3, 4, 5, 6, 7, 9, 10, 11}, []int{2, 3, 2, 3}, []int{2, 2}, []int{2})},
		{of(rising(12, 1, 1), []int{2, 2, 3, 3, 2}, []int{2, 3}, []int{2}), 1, of([]int{2, 3, 4, 5, 6, 7, 8, 9, 10, 11, 12}, []int{3, 3, 3, 2}, []int{2, 2}, []int{2})},
	} {
		if got, e := tree.Delete(x.s, x.id); !same(got, x.want) || e != api.OK {
			t.Errorf("%d: got %v, %d", i, got, e)
		}
	}
}

// Of all trees of so many members, each member.
func TestDeleteAll(t *testing.T) {
	for n := range 18 {
		for _, s := range shapes(n) {
			for _, id := range s.Ids {
				w := grown(s)
				w.remove(id)
				got, e := tree.Delete(s, id)
				if !same(got, w.shape()) || e != api.OK || tree.Check(got) != api.OK {
					t.Fatalf("%v, %d: got %v, %d, instead of %v", s, id, got, e, w.shape())
				}
			}
		}
	}
}

// What is no id at all is no member either.
func TestDeleteRefused(t *testing.T) {
	for _, s := range []api.Shape{{}, of([]int{5}), of([]int{5, 7}, []int{2}), built(t, 5, 7, 9, 11, 13), built(t, rising(most, 5, 2)...)} {
		for _, id := range []int{0, 4, 6, 8, 5 + 2*most, api.MaxId, -1, api.MaxId + 1, math.MinInt, math.MaxInt} {
			got, e := tree.Delete(s, id)
			noShape(t, "no member", got, e, api.ErrNone)
		}
	}
}

// P10.4

func TestPath(t *testing.T) {
	for n := range 17 {
		for _, s := range shapes(n) {
			w := grown(s)
			rows := w.rows()
			for _, leaf := range w.leaves() {
				var want []int
				for x, k := leaf.up, len(rows)-2; x != nil; x, k = x.up, k-1 {
					want = append(want, slices.Index(rows[k], x))
				}
				if got, e := tree.Path(s, leaf.id); !slices.Equal(got, want) || e != api.OK {
					t.Errorf("%v, %d: got %v, %d, instead of %v", s, leaf.id, got, e, want)
				}
			}
			for at := range n + 1 {
				got, e := tree.Path(s, 10*at+5)
				noList(t, "no member", got, e, api.ErrNone)
			}
			for _, id := range []int{-1, api.MaxId + 1, math.MinInt, math.MaxInt} {
				got, e := tree.Path(s, id)
				noList(t, "no id", got, e, api.ErrNone)
			}
		}
	}
}

func (x *thing) count() int {
	if len(x.kids) == 0 {
		return 1
	}
	n := 0
	for _, k := range x.kids {
		n += k.count()
	}
	return n
}

func TestSpans(t *testing.T) {
	for n := range 17 {
		for _, s := range shapes(n) {
			rows := grown(s).rows()
			for level := range s.Levels {
				want := []int{0}
				for _, x := range rows[len(rows)-2-level] {
					want = append(want, want[len(want)-1]+x.count())
				}
				if got, e := tree.Spans(s, level); !slices.Equal(got, want) || e != api.OK {
					t.Errorf("%v, %d: got %v, %d, instead of %v", s, level, got, e, want)
				}
			}
			for _, level := range []int{-1, len(s.Levels), len(s.Levels) + 1, math.MinInt, math.MaxInt} {
				got, e := tree.Spans(s, level)
				noList(t, "no level", got, e, api.ErrArg)
			}
		}
	}
}

func TestBuild(t *testing.T) {
	r := rand.New(rand.NewPCG(1, 2))
	for _, n := range []int{0, 1, 2, 3, 4, 5, 10, 40, 200, most} {
		for _, ids := range [][]int{rising(n, 0, 1), rising(n, 5000, -5), r.Perm(n), r.Perm(api.MaxId + 1)[:n], rising(n, api.MaxId, -1)} {
			w := &whole{}
			s := api.Shape{}
			for _, id := range ids {
				w.insert(id)
				s, _ = tree.Insert(s, id)
			}
			got, e := tree.Build(ids...)
			if !same(got, w.shape()) || !same(got, s) || e != api.OK || tree.Check(got) != api.OK {
				t.Fatalf("%d: got %v, %d", n, got, e)
			}
		}
	}
	if got, e := tree.Build(1, 2, 3, 4); !same(got, of([]int{1, 2, 3, 4}, []int{2, 2}, []int{2})) || e != api.OK {
		t.Errorf("got %v, %d", got, e)
	}
}

func TestBuildRefused(t *testing.T) {
	many := rising(most, 0, 1)
	more := func(ids ...int) []int { return slices.Concat(many, ids) }
	for i, x := range []struct {
		ids  []int
		want api.Errno
	}{
		{[]int{-1}, api.ErrArg},
		{[]int{api.MaxId + 1}, api.ErrArg},
		{[]int{1, 2, math.MaxInt, 3}, api.ErrArg},
		{[]int{1, 1}, api.ErrThere},
		{[]int{1, 2, 3, 2, 4}, api.ErrThere},
		// the first error is told
		{[]int{1, 1, -1}, api.ErrThere},
		{[]int{1, -1, 1}, api.ErrArg},
		{[]int{-1, -1}, api.ErrArg},
		{more(most), api.ErrFull},
		{more(-1), api.ErrArg},
		{more(500), api.ErrThere},
		{more(most, -1), api.ErrFull},
		{more(most, 500), api.ErrFull},
		{more(api.MaxId), api.ErrFull},
		{rising(5000, 0, 1), api.ErrFull},
	} {
		got, e := tree.Build(x.ids...)
		noShape(t, fmt.Sprint("list ", i), got, e, x.want)
	}
}

// P10.5

// depth is so many levels as two, so often multiplied, are no more than n.
func depth(n int) int {
	d := 0
	for k := 2; k <= n; k *= 2 {
		d++
	}
	return d
}

// Members come and go, as often as you like: the tree is always one that may be, no deeper than it may, and its members are those of a set.
func TestMembersComeAndGo(t *testing.T) {
	for seed, many := range []int{3, 8, 30, 200} {
		r := rand.New(rand.NewPCG(7, uint64(seed)))
		s, w := api.Shape{}, &whole{}
		in := map[int]bool{}
		for i := range 1500 {
			id := r.IntN(many * 2)
			at, is := tree.Find(s, id)
			if is != in[id] {
				t.Fatalf("%d: %d is a member: %v", i, id, is)
			}
			before := s
			var e api.Errno
			if is {
				s, e = tree.Delete(s, id)
				w.remove(id)
				delete(in, id)
			} else {
				s, e = tree.Insert(s, id)
				w.insert(id)
				in[id] = true
				if got := s.Ids[at]; got != id {
					t.Fatalf("%d: %d stands where %d should", i, got, id)
				}
			}
			if e != api.OK || tree.Check(s) != api.OK || !same(s, w.shape()) {
				t.Fatalf("%d, %d: of %v got %v, %d", i, id, before, s, e)
			}
			if len(s.Levels) > depth(len(s.Ids)) || len(s.Ids) != len(in) {
				t.Fatalf("%d: %d levels, %d members of %d", i, len(s.Levels), len(s.Ids), len(in))
			}
		}
	}
}

// What was inserted, and deleted, leaves the members as they were.
func TestInsertedAndDeleted(t *testing.T) {
	for n := range 15 {
		for _, s := range shapes(n) {
			for at := range n + 1 {
				more, e := tree.Insert(s, 10*at+5)
				if e != api.OK {
					t.Fatal(e)
				}
				if got, e := tree.Delete(more, 10*at+5); !slices.Equal(got.Ids, s.Ids) || tree.Check(got) != api.OK || e != api.OK {
					t.Errorf("%v, %d: got %v, %d", s, 10*at+5, got, e)
				}
			}
		}
	}
}

func TestNoDeeperThanItMay(t *testing.T) {
	for n := range 19 {
		for _, s := range shapes(n) {
			if len(s.Levels) > depth(n) {
				t.Errorf("%v", s)
			}
			for _, id := range s.Ids {
				if p, e := tree.Path(s, id); len(p) != len(s.Levels) || e != api.OK {
					t.Errorf("%v, %d: got %v, %d", s, id, p, e)
				}
			}
		}
	}
	for _, ids := range [][]int{rising(most, 0, 1), rising(most, most, -1)} {
		s := built(t, ids...)
		for len(s.Ids) > 0 {
			if len(s.Levels) > depth(len(s.Ids)) {
				t.Fatalf("%d members, %d levels", len(s.Ids), len(s.Levels))
			}
			next, e := tree.Delete(s, s.Ids[len(s.Ids)/3])
			if e != api.OK || tree.Check(next) != api.OK || len(next.Ids) != len(s.Ids)-1 {
				t.Fatal(e)
			}
			s = next
		}
	}
}

// R1: that a tree may not be is told ahead of all else.
func TestWrongTreeFirst(t *testing.T) {
	for i, s := range wrong() {
		was := clone(s)
		for _, id := range append([]int{-1, 0, 1, 2, 7, api.MaxId, api.MaxId + 1, math.MinInt, math.MaxInt}, s.Ids...) {
			what := fmt.Sprintf("%d, %d", i, id)
			got, e := tree.Insert(s, id)
			noShape(t, what, got, e, api.ErrArg)
			got, e = tree.Delete(s, id)
			noShape(t, what, got, e, api.ErrArg)
			p, e := tree.Path(s, id)
			noList(t, what, p, e, api.ErrArg)
		}
		for _, level := range []int{-1, 0, 1, 2, math.MaxInt} {
			p, e := tree.Spans(s, level)
			noList(t, fmt.Sprintf("%d, level %d", i, level), p, e, api.ErrArg)
		}
		if !same(s, was) {
			t.Errorf("%d: it was changed", i)
		}
	}
}

// roomy is the same tree in lists with room behind them, and a way to see whether the room was written into.
func roomy(s api.Shape) (api.Shape, func() bool) {
	row := func(l []int) []int { return append(l[:len(l):len(l)], -7, -7, -7, -7)[:len(l)] }
	out := api.Shape{Ids: row(s.Ids)}
	for _, groups := range s.Levels {
		out.Levels = append(out.Levels, row(groups))
	}
	out.Levels = append(out.Levels, []int{-7}, []int{-7})[:len(s.Levels)]
	kept := func(l []int) bool { return slices.Equal(l[len(l):len(l)+4], []int{-7, -7, -7, -7}) }
	return out, func() bool {
		ok := kept(out.Ids)
		for _, groups := range out.Levels {
			ok = ok && kept(groups)
		}
		for _, groups := range out.Levels[:len(s.Levels)+2][len(s.Levels):] {
			ok = ok && slices.Equal(groups, []int{-7})
		}
		return ok
	}
}

// spoil writes into all that a tree has.
func spoil(s api.Shape) {
	clear(s.Ids[:cap(s.Ids)])
	for _, groups := range s.Levels {
		clear(groups[:cap(groups)])
	}
	clear(s.Levels[:cap(s.Levels)])
}

// R2: what is handed in is not changed, room behind it or none, and what is answered shares nothing with it, nor with another answer.
func TestNothingIsShared(t *testing.T) {
	for n := range 13 {
		for _, first := range shapes(n) {
			for at := range 2*n + 1 {
				s, kept := roomy(first)
				id := 10*at/2 + 5
				change := tree.Insert
				if _, is := tree.Find(s, id); is {
					change = tree.Delete
				}
				got, e := change(s, id)
				again, _ := change(s, id)
				if !same(s, first) || !kept() || e != api.OK {
					t.Fatalf("%v, %d: it was changed: %v, %d", first, id, s, e)
				}
				was := clone(got)
				spoil(s)
				spoil(again)
				if !same(got, was) {
					t.Fatalf("%v, %d: got %v, and then %v", first, id, was, got)
				}
			}
		}
	}
}

// The lists of one answer don't run into each other.
func TestListsAreApart(t *testing.T) {
	s := built(t, rising(30, 0, 3)...)
	for id := range 90 {
		change := tree.Insert
		if id%3 == 0 {
			change = tree.Delete
		}
		got, e := change(s, id)
		if e != api.OK {
			t.Fatal(e)
		}
		was := clone(got)
		for _, groups := range append(slices.Clone(got.Levels), got.Ids) {
			_ = append(groups, 99, 99, 99)
		}
		_ = append(got.Levels, []int{99})
		if !same(got, was) {
			t.Errorf("%d: got %v, and then %v", id, was, got)
		}
	}
}

// Build keeps nothing of its list; Path and Spans tell lists that are neither the tree's nor kept.
func TestOwnLists(t *testing.T) {
	ids := rising(30, 0, 3)
	s := built(t, ids...)
	clear(ids)
	if !slices.Equal(s.Ids, rising(30, 0, 3)) {
		t.Fatalf("got %v", s.Ids)
	}
	was := clone(s)
	for _, id := range was.Ids {
		p, _ := tree.Path(s, id)
		clear(p[:cap(p)])
	}
	for level := range was.Levels {
		q, _ := tree.Spans(s, level)
		clear(q[:cap(q)])
	}
	if !same(s, was) {
		t.Error("the tree was changed by its lists")
	}
	p, _ := tree.Path(s, 30)
	q, _ := tree.Spans(s, 0)
	wasP, wasQ := slices.Clone(p), slices.Clone(q)
	spoil(s)
	if !slices.Equal(p, wasP) || !slices.Equal(q, wasQ) {
		t.Error("a list is the tree's")
	}
}
