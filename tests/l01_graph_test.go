package tests

import (
	"math"
	"slices"
	"testing"

	"loop.example/g00871/impl"
)

func TestHouseExamples(t *testing.T) {
	g := house()
	if !impl.GraphOk(g) || impl.GraphOk(impl.Graph{}) {
		t.Error("GraphOk")
	}
	if !impl.SameGraph(house(), house()) {
		t.Error("SameGraph")
	}
	if !impl.EdgeIn(g, 4, 2) || impl.EdgeIn(g, 4, 0) {
		t.Error("EdgeIn")
	}
	want := [][]int64{{0, 1}, {0, 3}, {1, 2}, {2, 3}, {2, 4}, {3, 4}}
	if got := impl.EdgesOf(g); !sameLists(got, want) {
		t.Error("EdgesOf", got)
	}
	if got := impl.ManyEdges(g); got != 6 {
		t.Error("ManyEdges", got)
	}
	if got, is := impl.GraphOf(5, [][]int64{{1, 0}}); is || len(got.Next) != 0 {
		t.Error("GraphOf", got)
	}
	if got, is := impl.GraphOf(5, want); !is || !sameLists(got.Next, g.Next) {
		t.Error("GraphOf", got)
	}
	if !impl.SetOk(g, []int64{0, 4}) || impl.SetOk(g, []int64{4, 0}) {
		t.Error("SetOk")
	}
	if !impl.OrderOk(g, []int64{4, 0, 3, 1, 2}) {
		t.Error("OrderOk")
	}
	if got := impl.DegreesOf(g); !slices.Equal(got, []int64{2, 2, 2, 3, 3}) {
		t.Error("DegreesOf", got)
	}
}

// Promise 1.
func TestGraphIsDeterminedBySizeAndEdges(t *testing.T) {
	for i, g := range someGraphs() {
		if !impl.GraphOk(g) {
			t.Fatal(i, g)
		}
		n := int64(len(g.Next))
		again, is := impl.GraphOf(n, impl.EdgesOf(g))
		if !is || !impl.SameGraph(again, g) || !sameLists(again.Next, g.Next) {
			t.Fatal(i, g, again)
		}
		bigger, is := impl.GraphOf(n+1, impl.EdgesOf(g))
		if is != (n < impl.MaxV) || impl.SameGraph(bigger, g) {
			t.Fatal(i, g, bigger)
		}
	}
}

// Promise 1: of two graphs with as many vertices, equal edges are what makes them the same.
func TestSameGraphComparesEdges(t *testing.T) {
	list := someGraphs()
	for i, a := range list {
		for j, b := range list {
			want := len(a.Next) == len(b.Next) && sameLists(impl.EdgesOf(a), impl.EdgesOf(b))
			if impl.SameGraph(a, b) != want || want != sameLists(a.Next, b.Next) {
				t.Fatal(i, j, a, b)
			}
		}
	}
}

func TestSameGraphEdgeCases(t *testing.T) {
	nils := impl.Graph{Next: [][]int64{nil, nil}}
	empties := impl.Graph{Next: [][]int64{{}, {}}}
	if !impl.SameGraph(nils, empties) {
		t.Error("a nil slice of neighbours is an empty one")
	}
	if impl.SameGraph(emptyGraph(2), emptyGraph(3)) || impl.SameGraph(emptyGraph(16), emptyGraph(15)) {
		t.Error("different numbers of vertices")
	}
	for _, bad := range badGraphs() {
		if impl.SameGraph(bad.g, house()) || impl.SameGraph(house(), bad.g) || impl.SameGraph(bad.g, bad.g) {
			t.Error(bad.name)
		}
	}
}

func TestEdgesOfEveryGraph(t *testing.T) {
	for i, g := range someGraphs() {
		want := [][]int64{}
		for _, p := range allPairs(len(g.Next)) {
			if slices.Contains(g.Next[p[0]], p[1]) {
				want = append(want, p)
			}
		}
		if got := impl.EdgesOf(g); !sameLists(got, want) {
			t.Fatal(i, g, got)
		}
		if got := impl.ManyEdges(g); got != int64(len(want)) {
			t.Fatal(i, g, got)
		}
	}
}

func TestEdgeInEveryPair(t *testing.T) {
	for i, g := range someGraphs() {
		for u := int64(-1); u <= impl.MaxV; u++ {
			for v := int64(-1); v <= impl.MaxV; v++ {
				want := u >= 0 && u < int64(len(g.Next)) && slices.Contains(g.Next[u], v)
				if impl.EdgeIn(g, u, v) != want {
					t.Fatal(i, g, u, v)
				}
			}
		}
	}
}

func TestEdgeInFarOutOfRange(t *testing.T) {
	far := []int64{math.MinInt64, -64, -1, 5, 16, 32, 64, 1 << 32, math.MaxInt64}
	for _, u := range far {
		for v := range int64(5) {
			if impl.EdgeIn(house(), u, v) || impl.EdgeIn(house(), v, u) {
				t.Error(u, v)
			}
		}
		for _, v := range far {
			if impl.EdgeIn(house(), u, v) {
				t.Error(u, v)
			}
		}
	}
}

func TestDegrees(t *testing.T) {
	for i, g := range someGraphs() {
		want := []int64{}
		sum := int64(0)
		for _, row := range g.Next {
			want = append(want, int64(len(row)))
			sum += int64(len(row))
		}
		slices.Sort(want)
		if got := impl.DegreesOf(g); !slices.Equal(got, want) || sum != 2*impl.ManyEdges(g) {
			t.Fatal(i, g, got)
		}
	}
	star := impl.Graph{Next: [][]int64{{1, 2, 3}, {0}, {0}, {0}}}
	if got := impl.DegreesOf(star); !slices.Equal(got, []int64{1, 1, 1, 3}) {
		t.Error("star", got)
	}
}

func TestGraphOfSizes(t *testing.T) {
	for n := int64(1); n <= impl.MaxV; n++ {
		g, is := impl.GraphOf(n, nil)
		if !is || !impl.GraphOk(g) || int64(len(g.Next)) != n || impl.ManyEdges(g) != 0 {
			t.Fatal(n, g)
		}
	}
	for _, n := range []int64{0, -1, -16, 17, 18, 1 << 40, math.MinInt64, math.MaxInt64} {
		for _, edges := range [][][]int64{nil, {}, {{0, 1}}} {
			if g, is := impl.GraphOf(n, edges); is || g.Next != nil {
				t.Error(n, g)
			}
		}
	}
}

func TestSmallestAndGreatestGraph(t *testing.T) {
	one, is := impl.GraphOf(1, nil)
	if !is || !impl.GraphOk(one) || len(one.Next) != 1 || len(one.Next[0]) != 0 {
		t.Error("one vertex", one)
	}
	if len(impl.EdgesOf(one)) != 0 || !slices.Equal(impl.DegreesOf(one), []int64{0}) || !impl.OrderOk(one, []int64{0}) || !impl.SetOk(one, []int64{0}) || impl.EdgeIn(one, 0, 0) {
		t.Error("functions of one vertex")
	}
	if _, is := impl.GraphOf(1, [][]int64{{0, 1}}); is {
		t.Error("an edge needs two vertices")
	}
	full, is := impl.GraphOf(impl.MaxV, allPairs(impl.MaxV))
	if !is || !sameLists(full.Next, fullGraph(impl.MaxV).Next) || impl.ManyEdges(full) != impl.MaxEdges {
		t.Error("all edges", full)
	}
	if !slices.Equal(impl.DegreesOf(full), slices.Repeat([]int64{15}, 16)) {
		t.Error("degrees of all edges")
	}
	if impl.MaxV != 16 || impl.MaxSmall != 8 || impl.MaxEdges != 120 {
		t.Error("limits")
	}
}

func TestGraphOfRepeatedEdges(t *testing.T) {
	for i, g := range someGraphs() {
		edges := impl.EdgesOf(g)
		if len(edges) > impl.MaxEdges/2 {
			continue
		}
		twice := slices.Concat(edges, copied(edges))
		slices.Reverse(twice)
		again, is := impl.GraphOf(int64(len(g.Next)), twice)
		if !is || !sameLists(again.Next, g.Next) {
			t.Fatal(i, g, again)
		}
	}
}

func TestGraphOfManyElements(t *testing.T) {
	same := slices.Repeat([][]int64{{0, 1}}, impl.MaxEdges)
	g, is := impl.GraphOf(2, same)
	if !is || !sameLists(g.Next, [][]int64{{1}, {0}}) {
		t.Error("120 elements", g)
	}
	for _, n := range []int64{2, impl.MaxV} {
		if g, is := impl.GraphOf(n, append(same[:len(same):len(same)], []int64{0, 1})); is || g.Next != nil {
			t.Error("121 elements", n)
		}
	}
	if g, is := impl.GraphOf(impl.MaxV, append(allPairs(impl.MaxV), []int64{0, 1})); is || g.Next != nil {
		t.Error("121 elements, all pairs")
	}
}

func TestGraphOfBadElements(t *testing.T) {
	bad := [][]int64{
		nil, {}, {0}, {0, 1, 2}, {1, 0}, {4, 3}, {0, 0}, {4, 4}, {0, 5}, {4, 5}, {5, 6}, {-1, 0}, {-2, -1}, {0, -1},
		{0, 16}, {0, 64}, {math.MinInt64, 0}, {0, math.MaxInt64}, {math.MinInt64, math.MaxInt64}, {0, 1, 1}, {5, 5},
	}
	good := impl.EdgesOf(house())
	for _, e := range bad {
		for at := 0; at <= len(good); at++ {
			edges := slices.Insert(copied(good), at, e)
			if g, is := impl.GraphOf(5, edges); is || g.Next != nil {
				t.Error(e, at, g)
			}
		}
	}
}

func TestSets(t *testing.T) {
	g := house()
	for _, s := range [][]int64{nil, {}, {0}, {4}, {0, 4}, {1, 2, 3}, {0, 1, 2, 3, 4}} {
		if !impl.SetOk(g, s) {
			t.Error("a set", s)
		}
	}
	for _, s := range [][]int64{{5}, {-1}, {0, 0}, {4, 4}, {4, 0}, {0, 2, 1}, {0, 1, 2, 3, 4, 5}, {0, 1, 1}, {-1, 0}, {math.MinInt64}, {math.MaxInt64}, {0, 16}, {0, 64}} {
		if impl.SetOk(g, s) {
			t.Error("no set", s)
		}
	}
	most := emptyGraph(impl.MaxV)
	if !impl.SetOk(most, []int64{0, 15}) || impl.SetOk(most, []int64{0, 16}) {
		t.Error("MaxV vertices")
	}
}

func TestOrders(t *testing.T) {
	g := house()
	for _, o := range [][]int64{{0, 1, 2, 3, 4}, {4, 3, 2, 1, 0}, {2, 4, 0, 3, 1}} {
		if !impl.OrderOk(g, o) {
			t.Error("an order", o)
		}
	}
	bad := [][]int64{
		nil, {}, {0, 1, 2, 3}, {0, 1, 2, 3, 3}, {0, 0, 1, 2, 3}, {0, 1, 2, 3, 5}, {-1, 0, 1, 2, 3}, {5, 1, 2, 3, 4}, {0, 1, 2, 3, 4, 4},
		{0, 1, 2, 3, 4, 5}, {0, 0, 0, 0, 0}, {0, 1, 2, 3, math.MaxInt64}, {math.MinInt64, 1, 2, 3, 4}, {64, 1, 2, 3, 4}, {0, 1, 2, 3, 20},
	}
	for _, o := range bad {
		if impl.OrderOk(g, o) {
			t.Error("no order", o)
		}
	}
	up := []int64{}
	for v := range int64(impl.MaxV) {
		up = append(up, v)
	}
	most := fullGraph(impl.MaxV)
	if !impl.OrderOk(most, up) || impl.OrderOk(most, up[1:]) || impl.OrderOk(most, append(up, 16)) {
		t.Error("MaxV vertices")
	}
}

// Promises 1 and 35: what is no graph has no edges, degrees, sets or orders.
func TestInvalidGraphs(t *testing.T) {
	for _, bad := range badGraphs() {
		if impl.GraphOk(bad.g) || impl.SameGraph(bad.g, bad.g) {
			t.Error(bad.name, "is valid")
		}
		if got := impl.EdgesOf(bad.g); len(got) != 0 {
			t.Error(bad.name, "EdgesOf", got)
		}
		if got := impl.ManyEdges(bad.g); got != 0 {
			t.Error(bad.name, "ManyEdges", got)
		}
		if got := impl.DegreesOf(bad.g); len(got) != 0 {
			t.Error(bad.name, "DegreesOf", got)
		}
		for u := int64(-1); u <= impl.MaxV+1; u++ {
			for v := int64(-1); v <= impl.MaxV+1; v++ {
				if impl.EdgeIn(bad.g, u, v) {
					t.Error(bad.name, "EdgeIn", u, v)
				}
			}
		}
		order := []int64{}
		for v := range min(len(bad.g.Next), 20) {
			order = append(order, int64(v))
		}
		if impl.SetOk(bad.g, nil) || impl.SetOk(bad.g, []int64{0}) || impl.SetOk(bad.g, order) {
			t.Error(bad.name, "SetOk")
		}
		if impl.OrderOk(bad.g, nil) || impl.OrderOk(bad.g, order) {
			t.Error(bad.name, "OrderOk")
		}
	}
}

// Promise 35, for invalid graphs too: they are arguments like others.
func TestGraphArgumentsStay(t *testing.T) {
	all := someGraphs()
	for _, bad := range badGraphs() {
		all = append(all, bad.g)
	}
	for _, g := range all {
		p, store := packedGraph(g)
		calls := []struct {
			name string
			call func()
		}{
			{"GraphOk", func() { impl.GraphOk(p) }},
			{"SameGraph", func() { impl.SameGraph(p, p) }},
			{"EdgeIn", func() { impl.EdgeIn(p, 0, 1) }},
			{"EdgesOf", func() { impl.EdgesOf(p) }},
			{"ManyEdges", func() { impl.ManyEdges(p) }},
			{"SetOk", func() { impl.SetOk(p, []int64{0}) }},
			{"OrderOk", func() { impl.OrderOk(p, []int64{0}) }},
			{"DegreesOf", func() { impl.DegreesOf(p) }},
		}
		for _, c := range calls {
			c.call()
			intact(t, c.name, p, store, g)
		}
	}
}

func TestOtherArgumentsStay(t *testing.T) {
	lists := [][]int64{{}, {0, 4}, {4, 0}, {4, 0, 3, 1, 2}, {0, 1, 2, 3, 3}, {3, 4, 5, 6, 7}}
	args, store := packed(lists)
	_, want := packed(lists)
	for _, s := range args {
		impl.SetOk(house(), s)
		impl.OrderOk(house(), s)
	}
	if !sameLists(args, lists) || !slices.Equal(store, want) {
		t.Error("SetOk or OrderOk changed an argument", store)
	}
	for _, extra := range [][][]int64{{}, {{2, 1}}, {{0, 9}}, {{0, 1}}} {
		edges := append([][]int64{{3, 4}, {0, 1}, {1, 3}}, extra...)
		p, store := packedGraph(impl.Graph{Next: edges})
		impl.GraphOf(5, p.Next)
		intact(t, "GraphOf", p, store, impl.Graph{Next: edges})
	}
}

// Promise 35: a result keeps its value when the argument is overwritten, and the other way round.
func TestResultsAreNewMemory(t *testing.T) {
	for _, g := range someGraphs() {
		n := int64(len(g.Next))
		p, store := packedGraph(g)
		edges, degrees := impl.EdgesOf(p), impl.DegreesOf(p)
		wantEdges, wantDegrees := copied(edges), slices.Clone(degrees)
		list, listStore := packed(edges)
		made, _ := impl.GraphOf(n, list)
		apart(t, "EdgesOf", edges)
		apart(t, "GraphOf", made.Next)
		for _, s := range [][]int64{store, listStore} {
			for i := range s {
				s[i] = guard
			}
		}
		if !sameLists(edges, wantEdges) || !slices.Equal(degrees, wantDegrees) || !sameLists(made.Next, g.Next) {
			t.Fatal("a result shares memory with an argument", g)
		}
		clear(edges)
		clear(made.Next)
		if !sameLists(impl.EdgesOf(g), wantEdges) {
			t.Fatal("a result changed the argument", g)
		}
	}
}

func TestResultsOfTwoCallsAreApart(t *testing.T) {
	edges := impl.EdgesOf(house())
	apart(t, "EdgesOf", append(edges, impl.EdgesOf(house())...))
	a, _ := impl.GraphOf(5, edges)
	b, _ := impl.GraphOf(5, edges)
	apart(t, "GraphOf", append(a.Next, b.Next...))
	apart(t, "DegreesOf", [][]int64{impl.DegreesOf(a), impl.DegreesOf(a)})
}
