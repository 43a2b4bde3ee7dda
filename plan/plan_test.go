package plan_test

import (
	"fmt"
	"math"
	"math/rand/v2"
	"slices"
	"strconv"
	"strings"
	"testing"

	"coterie/api"
	"coterie/plan"
	"coterie/red"
	"coterie/tree"
)

const most = 1000

func of(ids []int, levels ...[]int) api.Shape { return api.Shape{Ids: ids, Levels: levels} }

func step(node, from int, send ...int) api.Step { return api.Step{Node: node, From: from, Send: send} }

func kinds() []int { return []int{api.TwoK, api.RedK} }

// rising are so many Ids, from one on, by steps.
func rising(n, from, step int) []int {
	ids := make([]int, n)
	for i := range ids {
		ids[i] = from + i*step
	}
	return ids
}

func built(t *testing.T, ids ...int) api.Shape {
	t.Helper()
	s, e := tree.Build(ids...)
	if e != api.OK {
		t.Fatal(e)
	}
	return s
}

// levels are all levels that may stand above n leaves.
func levels(n int) [][][]int {
	if n < 2 {
		return [][][]int{nil}
	}
	var all [][][]int
	var split func(left int, low []int)
	split = func(left int, low []int) {
		if left == 0 {
			for _, rest := range levels(len(low)) {
				all = append(all, append([][]int{slices.Clone(low)}, rest...))
			}
			return
		}
		for _, g := range []int{2, 3} {
			if g <= left {
				split(left-g, append(slices.Clone(low), g))
			}
		}
	}
	split(n, nil)
	return all
}

// shapes are all trees of n members, 10, 20, ..
func shapes(n int) []api.Shape {
	var all []api.Shape
	for _, l := range levels(n) {
		all = append(all, of(rising(n, 10, 10), l...))
	}
	return all
}

// wrong are trees that may not be, each by one thing.
func wrong() []api.Shape {
	return []api.Shape{
		of([]int{-1}),
		of([]int{api.MaxId + 1}),
		of([]int{math.MinInt}),
		of([]int{2, 1}, []int{2}),
		of([]int{1, 1}, []int{2}),
		of(nil, nil),
		of(nil, []int{2}),
		of([]int{1}, nil),
		of([]int{1}, []int{1}),
		of([]int{1, 2}),
		of([]int{1, 2, 3}, []int{1, 2}, []int{2}),
		of([]int{1, 2, 3, 4}, []int{4}),
		of([]int{1, 2}, []int{3, -1}, []int{2}),
		of([]int{1, 2}, []int{math.MaxInt, math.MinInt, 3}, []int{3}),
		of([]int{1, 2}, []int{3}),
		of([]int{1, 2, 3}, []int{2}),
		of([]int{1, 2, 3, 4}, []int{2, 2}),
		of([]int{1, 2, 3, 4}, []int{2, 2}, []int{3}),
		of([]int{1, 2}, []int{2}, nil),
		of([]int{1, 2}, []int{2}, []int{1}),
		full(most + 1),
	}
}

// full is a tree of so many members by groups of two and, at the end, of three: of more than MaxMembers, too, which no call builds.
func full(n int) api.Shape {
	s := of(rising(n, 0, 1))
	for n > 1 {
		groups := slices.Repeat([]int{2}, n/2)
		groups[len(groups)-1] += n % 2
		s.Levels, n = append(s.Levels, groups), n/2
	}
	return s
}

// samePlan and sameShape hold things against each other by what they are told as, so that a list that is nil is one that is empty.
func samePlan(a, b api.Plan) bool { return fmt.Sprint(a) == fmt.Sprint(b) }

func sameShape(a, b api.Shape) bool { return fmt.Sprint(a) == fmt.Sprint(b) }

func clonePlan(p api.Plan) api.Plan {
	out := api.Plan{Keep: slices.Clone(p.Keep), Steps: slices.Clone(p.Steps)}
	for i := range out.Steps {
		out.Steps[i].Send = slices.Clone(out.Steps[i].Send)
	}
	return out
}

func noShape(t *testing.T, what string, s api.Shape, e, want api.Errno) {
	t.Helper()
	if len(s.Ids) != 0 || len(s.Levels) != 0 || e != want {
		t.Errorf("%s: got %v, %d, instead of none, %d", what, s, e, want)
	}
}

func noPlan(t *testing.T, what string, p api.Plan, e, want api.Errno) {
	t.Helper()
	if len(p.Keep) != 0 || len(p.Steps) != 0 || e != want {
		t.Errorf("%s: got %v, %d, instead of none, %d", what, p, e, want)
	}
}

// texts tell of each node all that is below it, which leaf is where, and what is red; so two that are told alike are the same all the way down. A leaf that is not to be kept is told as no other tree's is.
func texts(nodes []api.Node, ids []int, fresh func(id int) bool) []string {
	out := make([]string, len(nodes))
	for place, n := range nodes {
		if n.Level == 0 {
			out[place] = strconv.Itoa(ids[n.At])
			if fresh(ids[n.At]) {
				out[place] += "!"
			}
			continue
		}
		var kids []string
		for _, kid := range n.Kids {
			kids = append(kids, out[kid])
		}
		out[place] = fmt.Sprintf("(%v %s)", n.Red, strings.Join(kids, " "))
	}
	return out
}

// wanted is the plan, worked out another way: by what nodes are told as.
func wanted(t *testing.T, kind int, old, s api.Shape, touched []int, by int) api.Plan {
	t.Helper()
	was, e := red.Nodes(kind, old)
	if e != api.OK {
		t.Fatal(e)
	}
	now, e := red.Nodes(kind, s)
	if e != api.OK {
		t.Fatal(e)
	}
	isTouched := func(id int) bool { return id == by || slices.Contains(touched, id) }
	before := texts(was, old.Ids, func(int) bool { return false })
	p := api.Plan{}
	for _, text := range texts(now, s.Ids, isTouched) {
		p.Keep = append(p.Keep, slices.Index(before, text))
	}
	for place, n := range now {
		if len(n.Kids) == 0 || p.Keep[place] >= 0 {
			continue
		}
		var may []int
		for _, kid := range n.Kids {
			isLeaf := len(now[kid].Kids) == 0
			if isLeaf && s.Ids[now[kid].From] == by || !isLeaf && p.Keep[kid] < 0 {
				may = append(may, kid)
			}
		}
		x := api.Step{Node: place, From: -1, Send: slices.Clone(n.Kids)}
		if len(may) > 0 {
			x.From = may[0]
			x.Send = slices.DeleteFunc(x.Send, func(kid int) bool { return kid == may[0] })
		}
		p.Steps = append(p.Steps, x)
	}
	return p
}

// made is a plan, held against the one that is worked out the other way, and against what P12.4 says of it.
func made(t *testing.T, kind int, old, s api.Shape, touched []int, by int) api.Plan {
	t.Helper()
	p, e := plan.Make(kind, old, s, touched, by)
	want := wanted(t, kind, old, s, touched, by)
	if !samePlan(p, want) || !plan.Same(p, want) || e != api.OK {
		t.Fatalf("kind %d, %v to %v, touched %v, by %d: got %v, %d, instead of %v", kind, old, s, touched, by, p, e, want)
	}
	return p
}

// P12.1

func TestChangeKnown(t *testing.T) {
	five := of([]int{10, 20, 30, 40, 50}, []int{2, 3}, []int{2})
	for i, x := range []struct {
		s       api.Shape
		out, in []int
		want    api.Shape
	}{
		{of(nil), nil, nil, of(nil)},
		{of([]int{}, [][]int{}...), []int{}, []int{}, of(nil)},
		{of(nil), nil, []int{7}, of([]int{7})},
		{of(nil), nil, []int{0, api.MaxId}, of([]int{0, api.MaxId}, []int{2})},
		{of([]int{7}), []int{7}, nil, of(nil)},
		{of([]int{7}), []int{7}, []int{7}, of([]int{7})},
		{of([]int{7, 9}, []int{2}), nil, nil, of([]int{7, 9}, []int{2})},
		{of([]int{7, 9}, []int{2}), []int{9}, []int{8}, of([]int{7, 8}, []int{2})},
		{five, nil, nil, five},
		{five, []int{10}, nil, of([]int{20, 30, 40, 50}, []int{2, 2}, []int{2})},
		{five, nil, []int{60}, of([]int{10, 20, 30, 40, 50, 60}, []int{2, 2, 2}, []int{3})},
		{five, []int{10}, []int{15, 60}, of([]int{15, 20, 30, 40, 50, 60}, []int{3, 3}, []int{2})},
		{five, []int{50, 10, 40, 20, 30}, nil, of(nil)},
		{five, []int{10, 20, 30, 40, 50}, []int{50, 10}, of([]int{10, 50}, []int{2})},
		// who goes may come again, since all go first
		{five, []int{30}, []int{30}, of([]int{10, 20, 30, 40, 50}, []int{3, 2}, []int{2})},
		// of three that stand in another order comes another tree
		{of([]int{10, 20, 30}, []int{3}), nil, []int{15, 25, 27}, of([]int{10, 15, 20, 25, 27, 30}, []int{2, 2, 2}, []int{3})},
		{of([]int{10, 20, 30}, []int{3}), nil, []int{25, 15, 27}, of([]int{10, 15, 20, 25, 27, 30}, []int{3, 3}, []int{2})},
		{of(rising(6, 1, 1), []int{2, 2, 2}, []int{3}), []int{1, 6}, nil, of([]int{2, 3, 4, 5}, []int{2, 2}, []int{2})},
		{of(rising(6, 1, 1), []int{2, 2, 2}, []int{3}), []int{3, 4}, nil, of([]int{1, 2, 5, 6}, []int{2, 2}, []int{2})},
	} {
		if got, e := plan.Change(x.s, x.out, x.in); !sameShape(got, x.want) || e != api.OK {
			t.Errorf("%d: got %v, %d, instead of %v", i, got, e, x.want)
		}
	}
}

// Of members that are there or not, any number of times, in any order: what comes, and the first error, are those of one by one.
func TestChangeOneByOne(t *testing.T) {
	r := rand.New(rand.NewPCG(12, 1))
	pick := func(n int, ids []int) []int {
		var out []int
		for range n {
			if len(ids) > 0 && r.IntN(12) > 0 {
				out = append(out, ids[r.IntN(len(ids))])
			} else {
				out = append(out, r.IntN(50))
			}
		}
		return out
	}
	seen := map[api.Errno]int{}
	for range 20000 {
		s := built(t, r.Perm(40)[:r.IntN(30)]...)
		out, in := pick(r.IntN(5), s.Ids), pick(r.IntN(3), nil)
		want, e := s, api.OK
		for _, id := range out {
			if e == api.OK {
				want, e = tree.Delete(want, id)
			}
		}
		for _, id := range in {
			if e == api.OK {
				want, e = tree.Insert(want, id)
			}
		}
		seen[e]++
		if got, is := plan.Change(s, out, in); !sameShape(got, want) || is != e {
			t.Fatalf("%v, out %v, in %v: got %v, %d, instead of %v, %d", s, out, in, got, is, want, e)
		}
	}
	if seen[api.OK] < 1000 || seen[api.ErrNone] < 1000 || seen[api.ErrThere] < 1000 {
		t.Errorf("too few of some: %v", seen)
	}
}

func TestChangeRefused(t *testing.T) {
	five := built(t, 10, 20, 30, 40, 50)
	great := full(most)
	for i, x := range []struct {
		s       api.Shape
		out, in []int
		want    api.Errno
	}{
		{of(nil), []int{1}, nil, api.ErrNone},
		{five, []int{11}, nil, api.ErrNone},
		{five, []int{10, 10}, nil, api.ErrNone},
		{five, []int{10, 20, 30, 40, 50, 10}, nil, api.ErrNone},
		{five, []int{-1}, nil, api.ErrNone},
		{five, []int{math.MaxInt}, nil, api.ErrNone},
		{five, []int{math.MinInt}, nil, api.ErrNone},
		{five, nil, []int{10}, api.ErrThere},
		{five, nil, []int{60, 60}, api.ErrThere},
		{five, []int{20}, []int{10}, api.ErrThere},
		{five, nil, []int{-1}, api.ErrArg},
		{five, nil, []int{api.MaxId + 1}, api.ErrArg},
		{five, nil, []int{math.MinInt}, api.ErrArg},
		{great, nil, []int{most}, api.ErrFull},
		{great, []int{5}, []int{most, 5}, api.ErrFull},
		// the first error, in order, and all of out ahead of in
		{five, []int{11}, []int{-1}, api.ErrNone},
		{five, []int{11}, []int{10}, api.ErrNone},
		{five, []int{60}, []int{60}, api.ErrNone},
		{great, []int{most}, []int{most}, api.ErrNone},
		{five, nil, []int{60, -1, 10}, api.ErrArg},
		{five, nil, []int{60, 10, -1}, api.ErrThere},
		{great, nil, []int{-1, most}, api.ErrArg},
		{great, nil, []int{5, most}, api.ErrThere},
	} {
		got, e := plan.Change(x.s, x.out, x.in)
		noShape(t, strconv.Itoa(i), got, e, x.want)
	}
	if got, e := plan.Change(great, []int{5, 6}, []int{most, 5}); len(got.Ids) != most || e != api.OK {
		t.Errorf("got %d members, %d", len(got.Ids), e)
	}
	for i, s := range wrong() {
		for _, l := range [][]int{nil, {1}, {-1}, {math.MaxInt}, {1, 1}, s.Ids} {
			got, e := plan.Change(s, l, nil)
			noShape(t, fmt.Sprintf("tree %d, out %v", i, l), got, e, api.ErrArg)
			got, e = plan.Change(s, nil, l)
			noShape(t, fmt.Sprintf("tree %d, in %v", i, l), got, e, api.ErrArg)
		}
	}
}

// P12.2

func TestMakeKnown(t *testing.T) {
	four := of([]int{1, 2, 3, 4}, []int{2, 2}, []int{2})
	three, two := of([]int{1, 2, 3}, []int{3}), of([]int{1, 2}, []int{2})
	five, other := of(rising(5, 1, 1), []int{3, 2}, []int{2}), of(rising(5, 1, 1), []int{2, 3}, []int{2})
	for i, x := range []struct {
		kind    int
		old, s  api.Shape
		touched []int
		by      int
		want    api.Plan
	}{
		// the chapter's example
		{api.TwoK, four, four, nil, 1, api.Plan{Keep: []int{-1, 1, -1, 3, 4, 5, -1}, Steps: []api.Step{step(2, 0, 1), step(6, 2, 5)}}},
		{api.RedK, four, four, nil, 4, api.Plan{Keep: []int{0, 1, 2, 3, -1, -1, -1}, Steps: []api.Step{step(5, 4, 3), step(6, 5, 2)}}},
		// a member alone has no step
		{api.TwoK, of([]int{7}), of([]int{7}), nil, 7, api.Plan{Keep: []int{-1}}},
		{api.RedK, of(nil), of([]int{7}), []int{7}, 7, api.Plan{Keep: []int{-1}}},
		{api.TwoK, two, of([]int{2}), []int{1}, 2, api.Plan{Keep: []int{-1}}},
		// out of nothing comes nothing
		{api.TwoK, of(nil), three, nil, 2, api.Plan{Keep: []int{-1, -1, -1, -1}, Steps: []api.Step{step(3, 1, 0, 2)}}},
		{api.RedK, of(nil), three, nil, 3, api.Plan{Keep: []int{-1, -1, -1, -1, -1}, Steps: []api.Step{step(2, -1, 0, 1), step(4, 2, 3)}}},
		// who is touched is sent to; from by's leaf it goes on, from no other one
		{api.TwoK, four, four, []int{4}, 1, api.Plan{Keep: []int{-1, 1, -1, 3, -1, -1, -1}, Steps: []api.Step{step(2, 0, 1), step(5, -1, 3, 4), step(6, 2, 5)}}},
		{api.TwoK, three, three, []int{1, 2}, 3, api.Plan{Keep: []int{-1, -1, -1, -1}, Steps: []api.Step{step(3, 2, 0, 1)}}},
		// two others than the old ones: the first one counts, be it by's leaf or not
		{api.RedK, three, three, []int{1}, 3, api.Plan{Keep: []int{-1, 1, -1, -1, -1}, Steps: []api.Step{step(2, -1, 0, 1), step(4, 2, 3)}}},
		{api.RedK, three, three, []int{3}, 1, api.Plan{Keep: []int{-1, 1, -1, -1, -1}, Steps: []api.Step{step(2, 0, 1), step(4, 2, 3)}}},
		// a red one that was kept is sent to
		{api.RedK, three, three, nil, 3, api.Plan{Keep: []int{0, 1, 2, -1, -1}, Steps: []api.Step{step(4, 3, 2)}}},
		// a new one, and one that is gone
		{api.TwoK, two, three, []int{3}, 1, api.Plan{Keep: []int{-1, 1, -1, -1}, Steps: []api.Step{step(3, 0, 1, 2)}}},
		{api.TwoK, three, two, []int{3}, 1, api.Plan{Keep: []int{-1, 1, -1}, Steps: []api.Step{step(2, 0, 1)}}},
		// of kids that are kept the group is another one, if it was of three
		{api.TwoK, five, other, nil, 5, api.Plan{Keep: []int{0, 1, -1, 2, 4, -1, -1, -1}, Steps: []api.Step{step(2, -1, 0, 1), step(6, 5, 3, 4), step(7, 2, 6)}}},
		{api.TwoK, other, five, nil, 5, api.Plan{Keep: []int{0, 1, 3, -1, 4, -1, -1, -1}, Steps: []api.Step{step(3, -1, 0, 1, 2), step(6, 5, 4), step(7, 3, 6)}}},
		// the same two below a red one, and below a group, are two nodes
		{api.RedK, five, other, nil, 5, api.Plan{Keep: []int{0, 1, -1, 3, 5, -1, -1, -1, -1}, Steps: []api.Step{step(2, -1, 0, 1), step(5, -1, 3, 4), step(7, 5, 6), step(8, 2, 7)}}},
		{api.RedK, other, five, nil, 5, api.Plan{Keep: []int{0, 1, -1, 3, -1, 4, -1, -1, -1}, Steps: []api.Step{step(2, -1, 0, 1), step(4, 2, 3), step(7, 6, 5), step(8, 4, 7)}}},
		// a group is kept below another one
		{api.TwoK, of([]int{3, 4, 5}, []int{3}), of(rising(5, 1, 1), []int{2, 3}, []int{2}), nil, 1,
			api.Plan{Keep: []int{-1, -1, -1, 0, 1, 2, 3, -1}, Steps: []api.Step{step(2, 0, 1), step(7, 2, 6)}}},
		// and a tree below a greater one, whose root is no other's
		{api.RedK, five, of([]int{4, 5, 6}, []int{3}), nil, 6, api.Plan{Keep: []int{5, 6, -1, -1, -1}, Steps: []api.Step{step(2, -1, 0, 1), step(4, 2, 3)}}},
		{api.TwoK, of([]int{1, 2}, []int{2}), four, []int{3, 4}, 4, api.Plan{Keep: []int{0, 1, 2, -1, -1, -1, -1}, Steps: []api.Step{step(5, 4, 3), step(6, 5, 2)}}},
	} {
		if got, e := plan.Make(x.kind, x.old, x.s, x.touched, x.by); !samePlan(got, x.want) || !plan.Same(got, x.want) || e != api.OK {
			t.Errorf("%d: got %v, %d, instead of %v", i, got, e, x.want)
		}
	}
}

// All small trees, each one touched, gone, or come, by each one.
func TestMake(t *testing.T) {
	for n := 1; n < 9; n++ {
		for _, old := range shapes(n) {
			for _, kind := range kinds() {
				for _, by := range old.Ids {
					made(t, kind, old, old, nil, by)
					for _, id := range old.Ids {
						made(t, kind, old, old, []int{id}, by)
						less, _ := plan.Change(old, []int{id}, nil)
						if id != by {
							made(t, kind, old, less, []int{id}, by)
						}
					}
					for _, id := range rising(n+1, 5, 10) {
						more, _ := plan.Change(old, nil, []int{id})
						made(t, kind, old, more, []int{id}, by)
						made(t, kind, old, more, []int{id}, id)
					}
				}
			}
		}
	}
}

// One small tree behind any other one: of the same members, and of other ones.
func TestMakeOfAnyTwo(t *testing.T) {
	for n := range 10 {
		for m := 1; m < 10; m++ {
			for _, old := range shapes(n) {
				for _, s := range shapes(m) {
					for _, kind := range kinds() {
						made(t, kind, old, s, nil, s.Ids[0])
						made(t, kind, old, s, []int{30}, s.Ids[m-1])
						later := of(rising(m, 30, 10), s.Levels...)
						made(t, kind, old, later, nil, later.Ids[m/2])
					}
				}
			}
		}
	}
}

// Touched may be whoever, however often: who is no member plays no part, nor does by.
func TestTouched(t *testing.T) {
	s := built(t, rising(11, 10, 10)...)
	for _, kind := range kinds() {
		for _, by := range s.Ids {
			want := made(t, kind, s, s, []int{40, 70}, by)
			for _, touched := range [][]int{
				{70, 40}, {40, 40, 70, 70, 40}, {40, 70, by}, {by, by, 40, 70},
				{41, -1, math.MinInt, math.MaxInt, 40, 0, api.MaxId + 1, 70, 200},
			} {
				if got, e := plan.Make(kind, s, s, touched, by); !samePlan(got, want) || e != api.OK {
					t.Errorf("%v, by %d: got %v, %d, instead of %v", touched, by, got, e, want)
				}
			}
		}
		all := made(t, kind, s, s, s.Ids, 10)
		if slices.IndexFunc(all.Keep, func(place int) bool { return place != -1 }) >= 0 {
			t.Errorf("all are touched: kept are %v", all.Keep)
		}
	}
}

func TestMakeRefused(t *testing.T) {
	four, five := built(t, 1, 2, 3, 4), built(t, 2, 3, 4, 5, 6)
	for _, kind := range kinds() {
		for _, by := range []int{0, 1, 7, -1, api.MaxId, api.MaxId + 1, math.MinInt, math.MaxInt} {
			got, e := plan.Make(kind, four, five, []int{by}, by)
			noPlan(t, fmt.Sprintf("by %d", by), got, e, api.ErrArg)
		}
		for _, by := range []int{0, 1} {
			got, e := plan.Make(kind, four, of(nil), nil, by)
			noPlan(t, "of none", got, e, api.ErrArg)
			got, e = plan.Make(kind, of(nil), of(nil), nil, by)
			noPlan(t, "of none behind none", got, e, api.ErrArg)
		}
		for i, s := range wrong() {
			by := 2
			if len(s.Ids) > 0 {
				by = s.Ids[0]
			}
			got, e := plan.Make(kind, s, five, nil, 2)
			noPlan(t, fmt.Sprintf("old tree %d", i), got, e, api.ErrArg)
			got, e = plan.Make(kind, four, s, nil, by)
			noPlan(t, fmt.Sprintf("tree %d", i), got, e, api.ErrArg)
			got, e = plan.Make(kind, s, s, s.Ids, by)
			noPlan(t, fmt.Sprintf("tree %d, twice", i), got, e, api.ErrArg)
		}
	}
	for _, kind := range []int{0, 3, -1, 4, math.MinInt, math.MaxInt} {
		got, e := plan.Make(kind, four, five, nil, 2)
		noPlan(t, fmt.Sprintf("kind %d", kind), got, e, api.ErrArg)
		got, e = plan.Make(kind, of(nil), of([]int{7}), nil, 7)
		noPlan(t, fmt.Sprintf("kind %d, of one", kind), got, e, api.ErrArg)
	}
}

func TestSends(t *testing.T) {
	for i, x := range []struct {
		p    api.Plan
		want int
	}{
		{api.Plan{}, 0},
		{api.Plan{Keep: []int{1, 2, 3}}, 0},
		{api.Plan{Steps: []api.Step{step(5, 2)}}, 0},
		{api.Plan{Steps: []api.Step{step(5, 2, 9)}}, 1},
		{api.Plan{Steps: []api.Step{step(5, -1, 9, 9, -4), step(-3, 2), step(0, 0, 0, 1)}}, 5},
	} {
		if n := plan.Sends(x.p); n != x.want {
			t.Errorf("%d: got %d, instead of %d", i, n, x.want)
		}
	}
}

// Each part counts.
func TestSame(t *testing.T) {
	a := api.Plan{Keep: []int{4, -1, 6}, Steps: []api.Step{step(1, 2, 3, 4), step(5, -1, 6, 7, 8), step(9, 9)}}
	if !plan.Same(a, a) || !plan.Same(a, clonePlan(a)) {
		t.Error("the same are not the same")
	}
	changes := []func(p *api.Plan){
		func(p *api.Plan) { p.Keep = p.Keep[:2] },
		func(p *api.Plan) { p.Keep = p.Keep[1:] },
		func(p *api.Plan) { p.Keep = nil },
		func(p *api.Plan) { p.Keep = append(p.Keep, 0) },
		func(p *api.Plan) { p.Steps = p.Steps[:2] },
		func(p *api.Plan) { p.Steps = p.Steps[1:] },
		func(p *api.Plan) { p.Steps = nil },
		func(p *api.Plan) { p.Steps = append(p.Steps, api.Step{}) },
		func(p *api.Plan) { p.Steps[0], p.Steps[1] = p.Steps[1], p.Steps[0] },
		func(p *api.Plan) { p.Steps[0].Send, p.Steps[2].Send = nil, []int{3, 4} },
	}
	for i := range a.Keep {
		changes = append(changes, func(p *api.Plan) { p.Keep[i]++ })
	}
	for i, x := range a.Steps {
		changes = append(changes,
			func(p *api.Plan) { p.Steps[i].Node++ },
			func(p *api.Plan) { p.Steps[i].From-- },
			func(p *api.Plan) { p.Steps[i].Send = append(p.Steps[i].Send, 0) })
		for j := range x.Send {
			changes = append(changes,
				func(p *api.Plan) { p.Steps[i].Send[j]-- },
				func(p *api.Plan) { p.Steps[i].Send = slices.Delete(p.Steps[i].Send, j, j+1) })
		}
	}
	for i, change := range changes {
		b := clonePlan(a)
		change(&b)
		if plan.Same(a, b) || plan.Same(b, a) {
			t.Errorf("change %d: %v is the same", i, b)
		}
	}
}

// R3: a list without elements is nil or empty.
func TestSameOfNothing(t *testing.T) {
	empty := api.Plan{Keep: []int{}, Steps: []api.Step{}}
	if !plan.Same(api.Plan{}, api.Plan{}) || !plan.Same(api.Plan{}, empty) || !plan.Same(empty, api.Plan{}) {
		t.Error("without elements is not the same")
	}
	a, b := api.Plan{Steps: []api.Step{{Node: 1}}}, api.Plan{Steps: []api.Step{{Node: 1, Send: []int{}}}}
	if !plan.Same(a, b) || !plan.Same(b, a) {
		t.Error("a step sent to none is not the same")
	}
	if plan.Same(api.Plan{}, api.Plan{Keep: []int{0}}) || plan.Same(api.Plan{Steps: []api.Step{{}}}, api.Plan{}) {
		t.Error("one of zeros is none")
	}
}

// P12.3

func TestMost(t *testing.T) {
	one, two, four, eight := of([]int{7}), full(2), full(4), full(8)
	for i, x := range []struct {
		old, s     api.Shape
		many, want int
	}{
		{of(nil), of(nil), 0, 8},
		{one, one, 0, 8},
		{of(nil), one, 1, 24},
		{two, two, 0, 12},
		{two, two, 1, 36},
		{one, two, 3, 84},
		{four, four, 0, 16},
		{four, four, 3, 112},
		// the tree that has more levels, be it the old one or the other one
		{eight, two, 2, 100},
		{two, eight, 2, 100},
		{of(nil), eight, 2, 100},
		{eight, of(nil), 2, 100},
		{full(most), one, 100, 4 * 201 * 11},
		{full(most), full(most), 100000, 4 * 200001 * 11},
		{two, one, 100000, 4 * 200001 * 3},
		{two, one, 99999, 4 * 199999 * 3},
	} {
		if n, e := plan.Most(x.old, x.s, x.many); n != x.want || e != api.OK {
			t.Errorf("%d: got %d, %d, instead of %d", i, n, e, x.want)
		}
	}
}

func TestMostRefused(t *testing.T) {
	for _, many := range []int{-1, -2, 100001, 1 << 40, math.MinInt, math.MaxInt} {
		for _, s := range []api.Shape{of(nil), full(4)} {
			if n, e := plan.Most(s, s, many); n != 0 || e != api.ErrArg {
				t.Errorf("%d: got %d, %d", many, n, e)
			}
		}
	}
	for i, s := range wrong() {
		for _, many := range []int{0, 3, 100000, -1} {
			if n, e := plan.Most(s, full(4), many); n != 0 || e != api.ErrArg {
				t.Errorf("old tree %d: got %d, %d", i, n, e)
			}
			if n, e := plan.Most(full(4), s, many); n != 0 || e != api.ErrArg {
				t.Errorf("tree %d: got %d, %d", i, n, e)
			}
		}
	}
}

// P12.4

// change is a change of members, in which out go, in come, and others are touched.
type change struct{ out, in, others []int }

// chosen is a change of a tree, in which by stays, of at most so many of each.
func chosen(r *rand.Rand, s api.Shape, by, room int) change {
	c := change{}
	for _, at := range r.Perm(len(s.Ids)) {
		switch id := s.Ids[at]; {
		case id == by:
		case len(c.out) < room && r.IntN(2) == 0:
			c.out = append(c.out, id)
		case len(c.others) < room && r.IntN(2) == 0:
			c.others = append(c.others, id)
		}
	}
	for range r.IntN(room + 1) {
		id := r.IntN(3 * most)
		if len(c.out) > 0 && r.IntN(4) == 0 { // who goes may come again
			id = c.out[r.IntN(len(c.out))]
		}
		_, is := tree.Find(s, id)
		if (!is || slices.Contains(c.out, id)) && !slices.Contains(c.in, id) && len(s.Ids)-len(c.out)+len(c.in) < most {
			c.in = append(c.in, id)
		}
	}
	return c
}

// follows asks of a plan what P12.4 says of it.
func follows(t *testing.T, kind int, s api.Shape, p api.Plan, by int) {
	t.Helper()
	steps := map[int]api.Step{}
	for i, x := range p.Steps {
		steps[x.Node] = x
		if i > 0 && p.Steps[i-1].Node >= x.Node {
			t.Fatalf("%v: steps %v are not from below", s, p.Steps)
		}
	}
	for _, id := range s.Ids {
		up, e := red.Path(kind, s, id)
		if e != api.OK {
			t.Fatal(e)
		}
		news := false
		for i, place := range up {
			x, is := steps[place]
			if i == 0 && (is || id == by && p.Keep[place] != -1) {
				t.Fatalf("%v, by %d: leaf %d has step %v, and is kept as %d", s, by, place, x, p.Keep[place])
			}
			if i == 0 {
				continue
			}
			if is != (p.Keep[place] == -1) || news && !is {
				t.Fatalf("%v, by %d: %d's way up is not kept ones, and then others: %v", s, by, id, p)
			}
			if is && x.From != up[i-1] && !slices.Contains(x.Send, up[i-1]) {
				t.Fatalf("%v, by %d: node %d is sent to nobody on %d's way", s, by, place, id)
			}
			news = is
		}
		if len(up) > 1 && !news {
			t.Fatalf("%v, by %d: the root is kept", s, by)
		}
	}
}

// changed is a tree behind a change by a member, of which all that follows is asked, of both kinds.
func changed(t *testing.T, old api.Shape, c change, by int) api.Shape {
	t.Helper()
	s, e := plan.Change(old, c.out, c.in)
	if e != api.OK {
		t.Fatalf("%v, %v: %d", old, c, e)
	}
	many := len(c.out) + len(c.in) + len(c.others)
	bound, e := plan.Most(old, s, many)
	if e != api.OK {
		t.Fatal(e)
	}
	for _, kind := range kinds() {
		p := made(t, kind, old, s, slices.Concat(c.out, c.in, c.others), by)
		if n := plan.Sends(p); n > bound {
			t.Fatalf("kind %d, %v, %v by %d: %d are sent to, and %d at the most", kind, old, c, by, n, bound)
		}
		follows(t, kind, s, p, by)
	}
	return s
}

func TestWhatFollows(t *testing.T) {
	r := rand.New(rand.NewPCG(12, 4))
	for n := 1; n < 9; n++ {
		for _, old := range shapes(n) {
			for _, by := range old.Ids {
				changed(t, old, change{}, by)
				for range 4 {
					changed(t, old, chosen(r, old, by, 4), by)
				}
			}
		}
	}
}

// A group that goes on, change by change: grows, and gets less.
func TestWhatFollowsOnAndOn(t *testing.T) {
	r := rand.New(rand.NewPCG(12, 5))
	for _, n := range []int{1, 3, 30, 250, most} {
		for _, room := range []int{1, 3, 30} {
			s := built(t, r.Perm(3 * most)[:n]...)
			for range 40000 / (1000 + 10*n) {
				by := s.Ids[r.IntN(len(s.Ids))]
				s = changed(t, s, chosen(r, s, by, room), by)
			}
		}
	}
}

// Many members, of whom many go and come at once.
func TestWhatFollowsOfMany(t *testing.T) {
	great := full(most)
	evens := rising(most/2, 0, 2)
	changed(t, great, change{out: evens}, 1)
	changed(t, great, change{out: rising(most-1, 1, 1)}, 0)
	changed(t, great, change{out: rising(most-1, 0, 1)}, most-1)
	changed(t, great, change{out: evens, in: rising(most/2, 2*most, 1)}, 1)
	changed(t, great, change{others: evens}, 1)
	changed(t, of([]int{most}), change{in: rising(most-1, 0, 1)}, most)
	changed(t, full(2), change{out: []int{0}, in: rising(most-1, most, 3)}, 1)
}

// R2

// roomy is the same list with room behind it, into which a careless append would write.
func roomy(l []int) []int { return append(slices.Clone(l), -7, -7, -7, -7)[:len(l)] }

func roomyShape(s api.Shape) api.Shape {
	out := api.Shape{Ids: roomy(s.Ids)}
	for _, groups := range s.Levels {
		out.Levels = append(out.Levels, roomy(groups))
	}
	return out
}

// whole is all that a tree's lists hold, the room behind them too.
func whole(s api.Shape) string {
	text := fmt.Sprint(s, s.Ids[:cap(s.Ids)])
	for _, groups := range s.Levels {
		text += fmt.Sprint(groups[:cap(groups)])
	}
	return text
}

func spoilShape(s api.Shape) {
	clear(s.Ids[:cap(s.Ids)])
	for _, groups := range s.Levels {
		clear(groups[:cap(groups)])
	}
	clear(s.Levels[:cap(s.Levels)])
}

func spoilPlan(p api.Plan) {
	clear(p.Keep[:cap(p.Keep)])
	for _, x := range p.Steps {
		clear(x.Send[:cap(x.Send)])
	}
	clear(p.Steps[:cap(p.Steps)])
}

func TestNothingIsChanged(t *testing.T) {
	for n := 1; n < 9; n++ {
		for _, first := range shapes(n) {
			s, later := roomyShape(first), roomyShape(of(rising(n, 20, 10), first.Levels...))
			out, in := roomy([]int{first.Ids[n/2]}), roomy([]int{5, 105})
			was := whole(s) + whole(later) + fmt.Sprint(out[:cap(out)], in[:cap(in)])
			plan.Change(s, out, in)
			plan.Change(s, nil, nil)
			plan.Change(s, in, out)
			plan.Most(s, later, n)
			for _, kind := range kinds() {
				for _, by := range later.Ids {
					plan.Make(kind, s, later, out, by)
				}
			}
			if whole(s)+whole(later)+fmt.Sprint(out[:cap(out)], in[:cap(in)]) != was {
				t.Fatalf("%v: it was changed: %v, %v, %v, %v", first, s, later, out, in)
			}
		}
	}
	a, b := api.Plan{Keep: []int{3, 2}, Steps: []api.Step{step(4, 3, 2, 1)}}, api.Plan{Keep: []int{3, 2}, Steps: []api.Step{step(4, 3, 2, 1)}}
	was := clonePlan(a)
	plan.Same(a, b)
	plan.Sends(a)
	if !samePlan(a, was) || !samePlan(b, was) {
		t.Errorf("got %v, %v", a, b)
	}
}

// What is answered shares nothing with what was handed in, nor with another answer.
func TestNothingIsShared(t *testing.T) {
	for n := 1; n < 9; n++ {
		for _, first := range shapes(n) {
			for _, x := range []change{{}, {out: first.Ids[:1]}, {in: []int{5, 105}}, {out: first.Ids[n-1:], in: []int{15}}} {
				s, out, in := roomyShape(first), roomy(x.out), roomy(x.in)
				got, _ := plan.Change(s, out, in)
				again, _ := plan.Change(s, out, in)
				was := fmt.Sprint(got)
				spoilShape(s)
				spoilShape(again)
				clear(out)
				clear(in)
				if fmt.Sprint(got) != was {
					t.Fatalf("%v, %v: got %v, and then %v", first, x, was, got)
				}
			}
			for _, kind := range kinds() {
				old, s, touched := roomyShape(first), roomyShape(first), roomy(first.Ids[:1])
				got, _ := plan.Make(kind, old, s, touched, first.Ids[n/2])
				again, _ := plan.Make(kind, old, s, touched, first.Ids[n/2])
				was := clonePlan(got)
				spoilShape(old)
				spoilShape(s)
				spoilPlan(again)
				clear(touched)
				if !samePlan(got, was) {
					t.Fatalf("%v of kind %d: got %v, and then %v", first, kind, was, got)
				}
			}
		}
	}
}

// The lists of one answer don't run into each other.
func TestListsAreApart(t *testing.T) {
	old := built(t, rising(40, 0, 2)...)
	for _, x := range []change{{}, {out: []int{6, 8, 30}, in: []int{5, 7, 9, 11}}} {
		s, e := plan.Change(old, x.out, x.in)
		if e != api.OK {
			t.Fatal(e)
		}
		was := fmt.Sprint(s)
		for _, l := range append(slices.Clone(s.Levels), s.Ids) {
			_ = append(l, 99, 99, 99, 99, 99)
		}
		_ = append(s.Levels, nil, nil, nil, nil, nil)
		if fmt.Sprint(s) != was {
			t.Errorf("got %v, and then %v", was, s)
		}
	}
	for _, kind := range kinds() {
		p, e := plan.Make(kind, old, old, []int{2, 22, 42}, 30)
		if e != api.OK {
			t.Fatal(e)
		}
		was := clonePlan(p)
		_ = append(p.Keep, 99, 99, 99)
		for i := range p.Steps {
			_ = append(p.Steps[i].Send, 99, 99, 99)
		}
		if !samePlan(p, was) {
			t.Errorf("got %v, and then %v", was, p)
		}
		for i := range p.Steps {
			want := clonePlan(was)
			for j := range p.Steps[i].Send {
				p.Steps[i].Send[j], want.Steps[i].Send[j] = -9, -9
			}
			if !samePlan(p, want) {
				t.Fatalf("what step %d sends is another one's too", i)
			}
			p.Steps[i].Send = slices.Clone(was.Steps[i].Send)
		}
	}
}

// R5: the same is answered each time, though old leaves are a map.
func TestAlwaysTheSame(t *testing.T) {
	old := built(t, rising(200, 0, 3)...)
	s, _ := plan.Change(old, []int{30, 33, 90}, []int{1, 2, 31, 400})
	for _, kind := range kinds() {
		want := made(t, kind, old, s, []int{30, 33, 90, 1, 2, 31, 400}, 60)
		for range 20 {
			if got, e := plan.Make(kind, old, s, []int{400, 31, 2, 1, 90, 33, 30}, 60); !samePlan(got, want) || e != api.OK {
				t.Fatalf("got %v, %d, instead of %v", got, e, want)
			}
		}
	}
}
