package red_test

import (
	"fmt"
	"math"
	"math/rand/v2"
	"slices"
	"testing"

	"coterie/api"
	"coterie/red"
	"coterie/tree"
)

const most = 1000

func of(ids []int, levels ...[]int) api.Shape { return api.Shape{Ids: ids, Levels: levels} }

func kinds() []int { return []int{api.TwoK, api.RedK} }

// rising are so many Ids, from one on, by steps.
func rising(n, from, step int) []int {
	ids := make([]int, n)
	for i := range ids {
		ids[i] = from + i*step
	}
	return ids
}

func built(t *testing.T, ids ...int) api.Shape {
	t.Helper()
	s, e := tree.Build(ids...)
	if e != api.OK {
		t.Fatal(e)
	}
	return s
}

// splits are all ways to have n in groups of two and three.
func splits(n int) [][]int {
	if n == 0 {
		return [][]int{nil}
	}
	var all [][]int
	for _, first := range []int{2, 3} {
		if first <= n {
			for _, rest := range splits(n - first) {
				all = append(all, append([]int{first}, rest...))
			}
		}
	}
	return all
}

// levels are all levels that may stand above n leaves.
func levels(n int) [][][]int {
	if n < 2 {
		return [][][]int{nil}
	}
	var all [][][]int
	for _, low := range splits(n) {
		for _, rest := range levels(len(low)) {
			all = append(all, append([][]int{low}, rest...))
		}
	}
	return all
}

// shapes are all trees of n members.
func shapes(n int) []api.Shape {
	var all []api.Shape
	for _, l := range levels(n) {
		all = append(all, api.Shape{Ids: rising(n, 10, 10), Levels: l})
	}
	return all
}

// upon are levels above so many leaves: as many of one number as may be, and what is left over.
func upon(n, first int) [][]int {
	var all [][]int
	for n > 1 {
		var groups []int
		for left := n; left > 0; {
			g := first
			if g > left || left-g == 1 {
				g = 5 - first
			}
			groups, left = append(groups, g), left-g
		}
		all, n = append(all, groups), len(groups)
	}
	return all
}

// trees are all small ones, and some great ones.
func trees(t *testing.T) []api.Shape {
	var all []api.Shape
	for n := range 17 {
		all = append(all, shapes(n)...)
	}
	r := rand.New(rand.NewPCG(11, 1))
	for _, n := range []int{27, 64, 81, 100, 255, 512, most} {
		all = append(all,
			built(t, rising(n, 0, 1)...), built(t, rising(n, 5000, -3)...), built(t, r.Perm(n)...),
			of(rising(n, 3, 2), upon(n, 2)...), of(rising(n, 3, 2), upon(n, 3)...))
	}
	for i, s := range all {
		if e := tree.Check(s); e != api.OK {
			t.Fatalf("tree %d: %d", i, e)
		}
	}
	return all
}

// wrong are trees that may not be, each by one thing.
func wrong() []api.Shape {
	return []api.Shape{
		of([]int{-1}),
		of([]int{api.MaxId + 1}),
		of([]int{math.MinInt}),
		of([]int{2, 1}, []int{2}),
		of([]int{1, 1}, []int{2}),
		of([]int{1, 2, 2}, []int{3}),
		of(nil, nil),
		of(nil, []int{2}),
		of([]int{1}, nil),
		of([]int{1}, []int{1}),
		of([]int{1, 2}),
		of([]int{1, 2, 3}),
		of([]int{1, 2}, nil),
		of([]int{1, 2}, []int{1, 1}, []int{2}),
		of([]int{1, 2, 3}, []int{1, 2}, []int{2}),
		of([]int{1, 2, 3, 4}, []int{4}),
		of([]int{1, 2}, []int{3, -1}, []int{2}),
		of([]int{1, 2}, []int{math.MaxInt, math.MinInt, 3}, []int{3}),
		of([]int{1, 2}, []int{3}),
		of([]int{1, 2, 3}, []int{2}),
		of([]int{1, 2, 3, 4}, []int{2, 3}, []int{2}),
		of([]int{1, 2, 3, 4}, []int{2, 2}, []int{3}),
		of([]int{1, 2, 3, 4}, []int{2, 2}),
		of([]int{1, 2}, []int{2}, nil),
		of([]int{1, 2}, []int{2}, []int{1}),
		of([]int{1, 2, 3, 4}, nil, []int{2, 2}, []int{2}),
		of(rising(most+1, 0, 1), upon(most+1, 3)...),
	}
}

// wanted are the nodes, worked out another way: each one by the leaves that are below it, put in order by these alone; what is above is the least one that has more.
func wanted(t *testing.T, kind int, s api.Shape) []api.Node {
	t.Helper()
	var all []api.Node
	for at := range s.Ids {
		all = append(all, api.Node{At: at, From: at, To: at + 1})
	}
	below := rising(len(s.Ids)+1, 0, 1)
	for k, groups := range s.Levels {
		spans, e := tree.Spans(s, k)
		if e != api.OK {
			t.Fatal(e)
		}
		first := 0
		for at, n := range groups {
			all = append(all, api.Node{Level: k + 1, At: at, From: spans[at], To: spans[at+1]})
			if kind == api.RedK && n == 3 {
				all = append(all, api.Node{Level: k + 1, At: at, Red: true, From: spans[at], To: below[first+2]})
			}
			first += n
		}
		below = spans
	}
	slices.SortFunc(all, func(a, b api.Node) int {
		if a.To != b.To {
			return a.To - b.To
		}
		return b.From - a.From
	})
	for i := range all {
		all[i].Up = -1
		for j := range all {
			more := all[j].To-all[j].From > all[i].To-all[i].From
			if more && all[j].From <= all[i].From && all[j].To >= all[i].To && (all[i].Up < 0 || all[j].To-all[j].From < all[all[i].Up].To-all[all[i].Up].From) {
				all[i].Up = j
			}
		}
		if all[i].Up >= 0 {
			all[all[i].Up].Kids = append(all[all[i].Up].Kids, i)
		}
	}
	return all
}

// same holds nodes against each other by what they are told as, so that a list that is nil is one that is empty.
func same(a, b []api.Node) bool { return fmt.Sprint(a) == fmt.Sprint(b) }

func clone(l []api.Node) []api.Node {
	out := slices.Clone(l)
	for i := range out {
		out[i].Kids = slices.Clone(out[i].Kids)
	}
	return out
}

func noList(t *testing.T, what string, l []int, e, want api.Errno) {
	t.Helper()
	if len(l) != 0 || e != want {
		t.Errorf("%s: got %v, %d, instead of none, %d", what, l, e, want)
	}
}

// P11.1

func leaf(at, up int) api.Node { return api.Node{At: at, From: at, To: at + 1, Up: up} }

func TestNodesKnown(t *testing.T) {
	group := func(level, at, from, to, up int, kids ...int) api.Node {
		return api.Node{Level: level, At: at, From: from, To: to, Kids: kids, Up: up}
	}
	pair := func(level, at, from, to, up int, kids ...int) api.Node {
		return api.Node{Level: level, At: at, Red: true, From: from, To: to, Kids: kids, Up: up}
	}
	for i, x := range []struct {
		kind int
		s    api.Shape
		want []api.Node
	}{
		{api.TwoK, of(nil), nil},
		{api.RedK, of(nil), nil},
		{api.TwoK, of([]int{}, [][]int{}...), nil},
		{api.TwoK, of([]int{7}), []api.Node{leaf(0, -1)}},
		{api.RedK, of([]int{7}), []api.Node{leaf(0, -1)}},
		{api.TwoK, of([]int{7, 9}, []int{2}), []api.Node{leaf(0, 2), leaf(1, 2), group(1, 0, 0, 2, -1, 0, 1)}},
		{api.RedK, of([]int{7, 9}, []int{2}), []api.Node{leaf(0, 2), leaf(1, 2), group(1, 0, 0, 2, -1, 0, 1)}},
		{api.TwoK, of([]int{1, 2, 3}, []int{3}), []api.Node{leaf(0, 3), leaf(1, 3), leaf(2, 3), group(1, 0, 0, 3, -1, 0, 1, 2)}},
		// the red node stands ahead of the third one
		{api.RedK, of([]int{1, 2, 3}, []int{3}), []api.Node{leaf(0, 2), leaf(1, 2), pair(1, 0, 0, 2, 4, 0, 1), leaf(2, 4), group(1, 0, 0, 3, -1, 2, 3)}},
		{api.RedK, of([]int{1, 2, 3, 4}, []int{2, 2}, []int{2}), []api.Node{
			leaf(0, 2), leaf(1, 2), group(1, 0, 0, 2, 6, 0, 1),
			leaf(2, 5), leaf(3, 5), group(1, 1, 2, 4, 6, 3, 4), group(2, 0, 0, 4, -1, 2, 5)}},
		// red nodes of level 2, and below it
		{api.TwoK, of(rising(7, 0, 1), []int{2, 3, 2}, []int{3}), []api.Node{
			leaf(0, 2), leaf(1, 2), group(1, 0, 0, 2, 10, 0, 1),
			leaf(2, 6), leaf(3, 6), leaf(4, 6), group(1, 1, 2, 5, 10, 3, 4, 5),
			leaf(5, 9), leaf(6, 9), group(1, 2, 5, 7, 10, 7, 8), group(2, 0, 0, 7, -1, 2, 6, 9)}},
		{api.RedK, of(rising(7, 0, 1), []int{2, 3, 2}, []int{3}), []api.Node{
			leaf(0, 2), leaf(1, 2), group(1, 0, 0, 2, 8, 0, 1),
			leaf(2, 5), leaf(3, 5), pair(1, 1, 2, 4, 7, 3, 4), leaf(4, 7), group(1, 1, 2, 5, 8, 5, 6),
			pair(2, 0, 0, 5, 12, 2, 7),
			leaf(5, 11), leaf(6, 11), group(1, 2, 5, 7, 12, 9, 10), group(2, 0, 0, 7, -1, 8, 11)}},
	} {
		if got, e := red.Nodes(x.kind, x.s); !same(got, x.want) || !red.Same(got, x.want) || e != api.OK {
			t.Errorf("%d: got %v, %d, instead of %v", i, got, e, x.want)
		}
	}
}

func TestNodes(t *testing.T) {
	for _, s := range trees(t) {
		for _, kind := range kinds() {
			want := wanted(t, kind, s)
			if got, e := red.Nodes(kind, s); !same(got, want) || !red.Same(got, want) || e != api.OK {
				t.Fatalf("%v of kind %d: got %v, %d, instead of %v", s, kind, got, e, want)
			}
		}
	}
}

func TestHighKnown(t *testing.T) {
	for i, x := range []struct {
		s        api.Shape
		two, red int
	}{
		{of(nil), 0, 0},
		{of([]int{7}), 0, 0},
		{of([]int{7, 9}, []int{2}), 1, 1},
		{of([]int{1, 2, 3}, []int{3}), 1, 2},
		{of(rising(4, 0, 1), []int{2, 2}, []int{2}), 2, 2},
		{of(rising(5, 0, 1), []int{3, 2}, []int{2}), 2, 3},
		{of(rising(5, 0, 1), []int{2, 3}, []int{2}), 2, 3},
		// the leaf that has most is the first one, one between, or one of the last
		{of(rising(6, 0, 1), []int{2, 2, 2}, []int{3}), 2, 3},
		{of(rising(7, 0, 1), []int{3, 2, 2}, []int{3}), 2, 4},
		{of(rising(7, 0, 1), []int{2, 3, 2}, []int{3}), 2, 4},
		{of(rising(7, 0, 1), []int{2, 2, 3}, []int{3}), 2, 3},
		{of(rising(9, 0, 1), []int{3, 3, 3}, []int{3}), 2, 4},
		{of(rising(512, 0, 1), upon(512, 2)...), 9, 9},
		{of(rising(729, 0, 1), upon(729, 3)...), 6, 12},
	} {
		if n, e := red.High(api.TwoK, x.s); n != x.two || e != api.OK {
			t.Errorf("%d: got %d, %d, instead of %d", i, n, e, x.two)
		}
		if n, e := red.High(api.RedK, x.s); n != x.red || e != api.OK {
			t.Errorf("%d: of RedK got %d, %d, instead of %d", i, n, e, x.red)
		}
	}
}

// Each leaf's nodes above are counted, one by one.
func TestHigh(t *testing.T) {
	for _, s := range trees(t) {
		for _, kind := range kinds() {
			nodes := wanted(t, kind, s)
			want := 0
			for _, n := range nodes {
				if n.Level == 0 {
					many := 0
					for up := n.Up; up >= 0; up = nodes[up].Up {
						many++
					}
					want = max(want, many)
				}
			}
			if got, e := red.High(kind, s); got != want || e != api.OK {
				t.Errorf("%v of kind %d: got %d, %d, instead of %d", s, kind, got, e, want)
			}
		}
	}
}

// Each part of each node counts.
func TestSame(t *testing.T) {
	a := []api.Node{
		{Level: 1, At: 2, Red: true, From: 3, To: 5, Kids: []int{6, 7, 8}, Up: 9},
		{Level: 10, At: 20, From: 30, To: 50, Kids: []int{60}, Up: 90},
		leaf(4, -1),
	}
	if !red.Same(a, a) || !red.Same(a, clone(a)) {
		t.Error("the same are not the same")
	}
	for i := range a {
		for j, change := range []func(n *api.Node){
			func(n *api.Node) { n.Level++ },
			func(n *api.Node) { n.Level-- },
			func(n *api.Node) { n.At++ },
			func(n *api.Node) { n.Red = !n.Red },
			func(n *api.Node) { n.From++ },
			func(n *api.Node) { n.To++ },
			func(n *api.Node) { n.Up++ },
			func(n *api.Node) { n.Up = -n.Up },
			func(n *api.Node) { n.Kids = append(n.Kids, 0) },
			func(n *api.Node) { n.Kids = append([]int{0}, n.Kids...) },
		} {
			b := clone(a)
			change(&b[i])
			if red.Same(a, b) || red.Same(b, a) {
				t.Errorf("node %d, change %d: the same", i, j)
			}
		}
	}
	for at := range a[0].Kids {
		b := clone(a)
		b[0].Kids[at]++
		c := clone(a)
		c[0].Kids = slices.Delete(c[0].Kids, at, at+1)
		if red.Same(a, b) || red.Same(a, c) || red.Same(c, a) {
			t.Errorf("kid %d: the same", at)
		}
	}
	for _, b := range [][]api.Node{nil, {}, a[:2], a[1:], {a[1], a[0], a[2]}, append(clone(a), leaf(0, 0)), append(clone(a), api.Node{})} {
		if red.Same(a, b) || red.Same(b, a) {
			t.Errorf("%v: the same", b)
		}
	}
}

// R3: a list without elements is nil or empty.
func TestSameOfNothing(t *testing.T) {
	bare, empty := []api.Node{{At: 1}}, []api.Node{{At: 1, Kids: []int{}}}
	if !red.Same(nil, nil) || !red.Same(nil, []api.Node{}) || !red.Same([]api.Node{}, nil) || !red.Same(bare, empty) || !red.Same(empty, bare) {
		t.Error("without elements is not the same")
	}
	if red.Same(nil, []api.Node{{}}) || red.Same([]api.Node{{}}, nil) {
		t.Error("a node of zeros is none")
	}
}

// P11.2

func TestPathKnown(t *testing.T) {
	five := of([]int{10, 20, 30, 40, 50}, []int{3, 2}, []int{2})
	seven := of(rising(7, 0, 1), []int{2, 3, 2}, []int{3})
	for i, x := range []struct {
		kind     int
		s        api.Shape
		id       int
		up, side []int
	}{
		{api.TwoK, of([]int{7}), 7, []int{0}, nil},
		{api.RedK, of([]int{7}), 7, []int{0}, nil},
		{api.TwoK, of([]int{7, 9}, []int{2}), 7, []int{0, 2}, []int{1}},
		{api.RedK, of([]int{7, 9}, []int{2}), 9, []int{1, 2}, []int{0}},
		{api.TwoK, of([]int{1, 2, 3}, []int{3}), 1, []int{0, 3}, []int{1, 2}},
		{api.TwoK, of([]int{1, 2, 3}, []int{3}), 2, []int{1, 3}, []int{0, 2}},
		{api.TwoK, of([]int{1, 2, 3}, []int{3}), 3, []int{2, 3}, []int{0, 1}},
		{api.RedK, of([]int{1, 2, 3}, []int{3}), 1, []int{0, 2, 4}, []int{1, 3}},
		{api.RedK, of([]int{1, 2, 3}, []int{3}), 2, []int{1, 2, 4}, []int{0, 3}},
		{api.RedK, of([]int{1, 2, 3}, []int{3}), 3, []int{3, 4}, []int{2}},
		{api.TwoK, five, 20, []int{1, 3, 7}, []int{0, 2, 6}},
		{api.TwoK, five, 50, []int{5, 6, 7}, []int{4, 3}},
		{api.RedK, five, 10, []int{0, 2, 4, 8}, []int{1, 3, 7}},
		{api.RedK, five, 30, []int{3, 4, 8}, []int{2, 7}},
		{api.RedK, five, 40, []int{5, 7, 8}, []int{6, 4}},
		{api.TwoK, seven, 3, []int{4, 6, 10}, []int{3, 5, 2, 9}},
		{api.RedK, seven, 0, []int{0, 2, 8, 12}, []int{1, 7, 11}},
		{api.RedK, seven, 3, []int{4, 5, 7, 8, 12}, []int{3, 6, 2, 11}},
		{api.RedK, seven, 4, []int{6, 7, 8, 12}, []int{5, 2, 11}},
		{api.RedK, seven, 6, []int{10, 11, 12}, []int{9, 8}},
	} {
		if got, e := red.Path(x.kind, x.s, x.id); !slices.Equal(got, x.up) || e != api.OK {
			t.Errorf("%d: got %v, %d, instead of %v", i, got, e, x.up)
		}
		if got, e := red.Beside(x.kind, x.s, x.id); !slices.Equal(got, x.side) || e != api.OK {
			t.Errorf("%d, beside: got %v, %d, instead of %v", i, got, e, x.side)
		}
	}
}

// A member's way up are all nodes that have its leaf below, in order; beside them are those whose node above is one of them, which aren't one.
func TestPathAndBeside(t *testing.T) {
	for _, s := range trees(t) {
		for _, kind := range kinds() {
			nodes := wanted(t, kind, s)
			for at, id := range s.Ids {
				if len(s.Ids) > 100 && at%37 != 0 && at != len(s.Ids)-1 {
					continue
				}
				var up, side []int
				for place, n := range nodes {
					if n.From <= at && at < n.To {
						up = append(up, place)
					}
				}
				for _, above := range up {
					for place, n := range nodes {
						if n.Up == above && !(n.From <= at && at < n.To) {
							side = append(side, place)
						}
					}
				}
				if got, e := red.Path(kind, s, id); !slices.Equal(got, up) || e != api.OK {
					t.Fatalf("%v of kind %d, %d: got %v, %d, instead of %v", s, kind, id, got, e, up)
				}
				if got, e := red.Beside(kind, s, id); !slices.Equal(got, side) || e != api.OK {
					t.Fatalf("%v of kind %d, %d: beside got %v, %d, instead of %v", s, kind, id, got, e, side)
				}
			}
		}
	}
}

// What is no id at all is no member either.
func TestNoMember(t *testing.T) {
	for _, s := range []api.Shape{{}, of([]int{5}), of([]int{5, 7}, []int{2}), built(t, 5, 7, 9, 11, 13), built(t, rising(most, 5, 2)...)} {
		for _, kind := range kinds() {
			for _, id := range []int{0, 4, 6, 8, 5 + 2*most, api.MaxId, -1, api.MaxId + 1, math.MinInt, math.MaxInt} {
				got, e := red.Path(kind, s, id)
				noList(t, "path", got, e, api.ErrNone)
				got, e = red.Beside(kind, s, id)
				noList(t, "beside", got, e, api.ErrNone)
			}
		}
	}
}

// R1: a wrong kind, or a tree that may not be, is told ahead of all else.
func TestWrong(t *testing.T) {
	refused := func(what string, kind int, s api.Shape) {
		t.Helper()
		if got, e := red.Nodes(kind, s); len(got) != 0 || e != api.ErrArg {
			t.Errorf("%s: got %v, %d", what, got, e)
		}
		if got, e := red.High(kind, s); got != 0 || e != api.ErrArg {
			t.Errorf("%s: got %d, %d", what, got, e)
		}
		for _, id := range append([]int{-1, 0, 6, api.MaxId, api.MaxId + 1, math.MinInt, math.MaxInt}, s.Ids...) {
			got, e := red.Path(kind, s, id)
			noList(t, what+", path", got, e, api.ErrArg)
			got, e = red.Beside(kind, s, id)
			noList(t, what+", beside", got, e, api.ErrArg)
		}
	}
	none := []int{0, 3, -1, 4, -2, math.MinInt, math.MaxInt}
	for _, kind := range none {
		for _, s := range []api.Shape{{}, of([]int{5}), of([]int{5, 7}, []int{2}), of([]int{5, 7, 9}, []int{3}), built(t, rising(30, 1, 1)...)} {
			refused(fmt.Sprintf("kind %d, %v", kind, s), kind, s)
		}
	}
	for i, s := range wrong() {
		for _, kind := range append(kinds(), none...) {
			refused(fmt.Sprintf("tree %d, kind %d", i, kind), kind, s)
		}
	}
}

// P11.3

// depth is so many levels as two, so often multiplied, are no more than n.
func depth(n int) int {
	d := 0
	for k := 2; k <= n; k *= 2 {
		d++
	}
	return d
}

func TestWhatFollows(t *testing.T) {
	for _, s := range trees(t) {
		n := len(s.Ids)
		for _, kind := range kinds() {
			nodes, e := red.Nodes(kind, s)
			if e != api.OK {
				t.Fatal(e)
			}
			leaves := 0
			for place, x := range nodes {
				if x.Level == 0 {
					leaves++
				}
				if x.Red && kind == api.TwoK {
					t.Errorf("%v: node %d is red", s, place)
				}
				if kind == api.RedK && len(x.Kids) != 0 && len(x.Kids) != 2 {
					t.Errorf("%v: node %d has kids %v", s, place, x.Kids)
				}
				for _, kid := range x.Kids {
					if x.Red && nodes[kid].Red {
						t.Errorf("%v: red node %d has a red kid", s, place)
					}
				}
			}
			if leaves != n || n > 0 && len(nodes)-leaves >= n || kind == api.RedK && n > 0 && len(nodes) != 2*n-1 {
				t.Errorf("%v of kind %d: %d nodes, %d of them leaves", s, kind, len(nodes), leaves)
			}
			high, e := red.High(kind, s)
			if e != api.OK || high > depth(n)*kind {
				t.Errorf("%v of kind %d: got %d, %d", s, kind, high, e)
			}
			for at, id := range s.Ids {
				if at%97 == 0 {
					up, _ := red.Path(kind, s, id)
					if len(up) > high+1 || len(up) <= len(s.Levels) || kind == api.TwoK && len(up) != high+1 {
						t.Errorf("%v of kind %d, %d: got %v, high %d", s, kind, id, up, high)
					}
				}
			}
		}
	}
}

// R2

// roomy is the same tree in lists with room behind them, and a way to see whether anything was written into.
func roomy(s api.Shape) (api.Shape, func() bool) {
	row := func(l []int) []int { return append(slices.Clone(l), -7, -7, -7, -7)[:len(l)] }
	out := api.Shape{Ids: row(s.Ids)}
	for _, groups := range s.Levels {
		out.Levels = append(out.Levels, row(groups))
	}
	kept := func(l []int) bool { return slices.Equal(l[len(l):len(l)+4], []int{-7, -7, -7, -7}) }
	was := fmt.Sprint(s)
	return out, func() bool {
		ok := kept(out.Ids) && fmt.Sprint(out) == was
		for _, groups := range out.Levels {
			ok = ok && kept(groups)
		}
		return ok
	}
}

func TestNothingIsChanged(t *testing.T) {
	for n := range 10 {
		for _, first := range shapes(n) {
			for _, kind := range kinds() {
				s, kept := roomy(first)
				for _, id := range append([]int{5}, first.Ids...) {
					red.Nodes(kind, s)
					red.High(kind, s)
					red.Path(kind, s, id)
					red.Beside(kind, s, id)
				}
				if !kept() {
					t.Fatalf("%v of kind %d: it was changed: %v", first, kind, s)
				}
			}
		}
	}
	a := []api.Node{{At: 1, Kids: []int{3, 2}}, {At: 2, Kids: []int{5, 4}}}
	b, was := clone(a), clone(a)
	if red.Same(a, b); !same(a, was) || !same(b, was) {
		t.Errorf("got %v, %v", a, b)
	}
}

// What is answered shares nothing with the tree, nor with another answer.
func TestNothingIsShared(t *testing.T) {
	for n := range 10 {
		for _, first := range shapes(n) {
			for _, kind := range kinds() {
				s, _ := roomy(first)
				got, _ := red.Nodes(kind, s)
				again, _ := red.Nodes(kind, s)
				was := clone(got)
				clear(s.Ids)
				for _, groups := range s.Levels {
					clear(groups)
				}
				for i := range again {
					clear(again[i].Kids[:cap(again[i].Kids)])
				}
				clear(again[:cap(again)])
				if !same(got, was) {
					t.Fatalf("%v of kind %d: got %v, and then %v", first, kind, was, got)
				}
			}
		}
	}
	for _, kind := range kinds() {
		s := built(t, rising(30, 0, 1)...)
		for _, id := range s.Ids {
			up, _ := red.Path(kind, s, id)
			side, _ := red.Beside(kind, s, id)
			wasUp, wasSide := slices.Clone(up), slices.Clone(side)
			other, _ := red.Path(kind, s, id)
			clear(other[:cap(other)])
			other, _ = red.Beside(kind, s, id)
			clear(other[:cap(other)])
			if !slices.Equal(up, wasUp) || !slices.Equal(side, wasSide) {
				t.Errorf("%d of kind %d: a list is kept", id, kind)
			}
		}
	}
}

// The lists of one answer don't run into each other.
func TestListsAreApart(t *testing.T) {
	for _, kind := range kinds() {
		got, e := red.Nodes(kind, built(t, rising(40, 0, 1)...))
		if e != api.OK {
			t.Fatal(e)
		}
		was := clone(got)
		for i := range got {
			_ = append(got[i].Kids, 99, 99, 99)
		}
		if !same(got, was) {
			t.Errorf("got %v, and then %v", was, got)
		}
		for i := range got {
			for j := range got[i].Kids {
				got[i].Kids[j] = -9
			}
			want := clone(was)
			for j := range want[i].Kids {
				want[i].Kids[j] = -9
			}
			if !same(got, want) {
				t.Fatalf("kids of %d are another one's too", i)
			}
			got[i].Kids = slices.Clone(was[i].Kids)
		}
	}
}
