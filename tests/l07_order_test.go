package tests

import (
	"fmt"
	"math"
	"slices"
	"testing"

	"loop.example/g00871/impl"
)

// trueLater returns, for each vertex, the vertices behind it in the order to which there is a path
// whose inner vertices all stand before it. These are its later neighbours in the filled graph; no
// vertex is eliminated to find them.
func trueLater(g impl.Graph, order []int64) [][]int64 {
	n := len(g.Next)
	at := make([]int, n)
	for i, v := range order {
		at[v] = i
	}
	out := make([][]int64, n)
	for v := range n {
		seen := make([]bool, n)
		seen[v] = true
		for todo := []int{v}; len(todo) > 0; {
			w := todo[0]
			todo = todo[1:]
			for _, u := range g.Next[w] {
				if seen[u] {
					continue
				}
				seen[u] = true
				if at[u] < at[v] {
					todo = append(todo, int(u))
				} else {
					out[v] = append(out[v], u)
				}
			}
		}
		slices.Sort(out[v])
	}
	return out
}

// trueFill returns the graph in which the vertices of later are neighbours, in both directions.
func trueFill(later [][]int64) impl.Graph {
	g := emptyGraph(len(later))
	for v, row := range later {
		for _, u := range row {
			g.Next[v] = append(g.Next[v], u)
			g.Next[u] = append(g.Next[u], int64(v))
		}
	}
	for _, row := range g.Next {
		slices.Sort(row)
	}
	return g
}

// manyEnds returns the number of elements of all lists.
func manyEnds(lists [][]int64) int {
	many := 0
	for _, list := range lists {
		many += len(list)
	}
	return many
}

// longest returns the number of elements of the longest list.
func longest(lists [][]int64) int64 {
	most := 0
	for _, list := range lists {
		most = max(most, len(list))
	}
	return int64(most)
}

// table says for each two vertices whether they are neighbours.
type table [][]bool

func tableOf(g impl.Graph) table {
	m := make(table, len(g.Next))
	for v, row := range g.Next {
		m[v] = make([]bool, len(g.Next))
		for _, u := range row {
			m[v][u] = true
		}
	}
	return m
}

// fewest returns the number of neighbours of v in left.
func (m table) fewest(left []int64, v int64) int {
	many := 0
	for _, u := range left {
		if m[v][u] {
			many++
		}
	}
	return many
}

// missing returns the pairs in left that are neighbours of v, but not of each other.
func (m table) missing(left []int64, v int64) [][2]int64 {
	out := [][2]int64{}
	for i, u := range left {
		for _, w := range left[:i] {
			if m[v][u] && m[v][w] && !m[u][w] {
				out = append(out, [2]int64{u, w})
			}
		}
	}
	return out
}

// join makes the neighbours of v in left neighbours of each other.
func (m table) join(left []int64, v int64) {
	for _, p := range m.missing(left, v) {
		m[p[0]][p[1]], m[p[1]][p[0]] = true, true
	}
}

// joinedFill returns the graph with the edges that arise when one vertex after the other is
// eliminated, as the specification describes it.
func joinedFill(g impl.Graph, order []int64) impl.Graph {
	m := tableOf(g)
	for i, v := range order {
		m.join(order[i+1:], v)
	}
	return fromPairs(len(g.Next), func(u, v int) bool { return m[u][v] })
}

// trueGreedy returns the order that always eliminates the vertex of the smallest cost.
func trueGreedy(g impl.Graph, cost func(m table, left []int64, v int64) int) []int64 {
	m, left, order := tableOf(g), upTo(len(g.Next)), []int64{}
	for len(left) > 0 {
		best, at := cost(m, left, left[0]), 0
		for i, v := range left {
			if c := cost(m, left, v); c < best {
				best, at = c, i
			}
		}
		v := left[at]
		left = slices.Delete(left, at, at+1)
		m.join(left, v)
		order = append(order, v)
	}
	return order
}

func trueByDegree(g impl.Graph) []int64 {
	return trueGreedy(g, table.fewest)
}

func trueByFill(g impl.Graph) []int64 {
	return trueGreedy(g, func(m table, left []int64, v int64) int { return len(m.missing(left, v)) })
}

// trueDegeneracy returns the greatest, over all induced subgraphs, of their smallest numbers of
// neighbours.
func trueDegeneracy(g impl.Graph) int64 {
	m := tableOf(g)
	most := 0
	for code := 1; code < 1<<len(g.Next); code++ {
		set := subsetOf(len(g.Next), code)
		least := len(set)
		for _, v := range set {
			least = min(least, m.fewest(set, v))
		}
		most = max(most, least)
	}
	return int64(most)
}

// orderedGraph is a graph with orders of it.
type orderedGraph struct {
	g      impl.Graph
	orders [][]int64
}

// smallOrdered returns every graph of up to five vertices and a choice of those of six, each with
// all its orders.
func smallOrdered() []orderedGraph {
	list := []orderedGraph{}
	for n := 1; n <= 6; n++ {
		orders := allLists(n, n)
		step := 1
		if n == 6 {
			step = 251
		}
		for i, g := range allGraphs(n) {
			if i%step == 0 {
				list = append(list, orderedGraph{g, orders})
			}
		}
	}
	return list
}

// greatOrdered returns graphs of up to MaxV vertices, each with some orders.
func greatOrdered() []orderedGraph {
	list := []orderedGraph{}
	for _, g := range walkGraphs() {
		if len(g.Next) > 5 {
			orders := append(someOrders(len(g.Next)), trueByDegree(g), trueByFill(g))
			list = append(list, orderedGraph{g, orders})
		}
	}
	return list
}

// greedyGraphs returns every graph of up to six vertices, and walkGraphs.
func greedyGraphs() []impl.Graph {
	return append(walkGraphs(), allGraphs(6)...)
}

func TestOrderExamples(t *testing.T) {
	g := house()
	order := []int64{2, 0, 1, 3, 4}
	f, is := impl.FillOf(g, order)
	wantGraph(t, "FillOf", f, is, rows([]int64{1, 3}, []int64{0, 2, 3, 4}, []int64{1, 3, 4}, []int64{0, 1, 2, 4}, []int64{1, 2, 3}))
	if got := impl.LaterOf(g, order); !sameLists(got, [][]int64{{1, 3}, {3, 4}, {1, 3, 4}, {4}, {}}) {
		t.Error("LaterOf", got)
	}
	if got := impl.OrderWidth(g, order); got != 3 {
		t.Error("OrderWidth", got)
	}
	if got := impl.FillMany(g, order); got != 2 {
		t.Error("FillMany", got)
	}
	if impl.PerfectIn(g, order) || !impl.PerfectIn(f, order) {
		t.Error("PerfectIn", impl.PerfectIn(g, order), impl.PerfectIn(f, order))
	}
	wantList(t, "ByDegree", impl.ByDegree(g), 0, 1, 2, 3, 4)
	wantList(t, "ByFill", impl.ByFill(g), 4, 0, 1, 2, 3)
	if got := impl.DegeneracyOf(g); got != 2 {
		t.Error("DegeneracyOf", got)
	}
}

// wantOrdered fails unless the functions of an order return what follows from its later sets.
func wantOrdered(t *testing.T, g impl.Graph, order []int64) {
	t.Helper()
	later := trueLater(g, order)
	f, is := impl.FillOf(g, order)
	wantGraph(t, fmt.Sprint("FillOf ", g.Next, order), f, is, trueFill(later))
	if got := impl.LaterOf(g, order); !sameLists(got, later) {
		t.Fatalf("LaterOf %v %v: got %v, want %v", g.Next, order, got, later)
	}
	if got := impl.OrderWidth(g, order); got != longest(later) {
		t.Fatalf("OrderWidth %v %v: got %d, want %d", g.Next, order, got, longest(later))
	}
	added := int64(manyEnds(later) - manyEnds(g.Next)/2)
	if got := impl.FillMany(g, order); got != added {
		t.Fatalf("FillMany %v %v: got %d, want %d", g.Next, order, got, added)
	}
	if got := impl.PerfectIn(g, order); got != (added == 0) {
		t.Fatalf("PerfectIn %v %v: got %v, but %d edges are added", g.Next, order, got, added)
	}
}

func TestEveryOrderOfSmallGraphs(t *testing.T) {
	for _, c := range smallOrdered() {
		for _, order := range c.orders {
			wantOrdered(t, c.g, order)
		}
	}
}

func TestSomeOrdersOfGreaterGraphs(t *testing.T) {
	for _, c := range greatOrdered() {
		for _, order := range c.orders {
			wantOrdered(t, c.g, order)
		}
	}
}

// The filled graph is also what the literal elimination gives.
func TestFilledVertexByVertex(t *testing.T) {
	for _, c := range append(smallOrdered(), greatOrdered()...) {
		for i, order := range c.orders {
			if len(c.g.Next) <= 4 || i%7 == 0 {
				f, is := impl.FillOf(c.g, order)
				wantGraph(t, fmt.Sprint("FillOf ", c.g.Next, order), f, is, joinedFill(c.g, order))
			}
		}
	}
}

// Promise 7, first part.
func TestNoWidthBelowTheDegeneracy(t *testing.T) {
	for _, c := range append(smallOrdered(), greatOrdered()...) {
		least := impl.DegeneracyOf(c.g)
		if len(c.g.Next) <= 6 && least != trueDegeneracy(c.g) {
			t.Fatal("promise 7", c.g.Next, least)
		}
		for _, order := range c.orders {
			if got := impl.OrderWidth(c.g, order); got < least {
				t.Fatalf("promise 7: %v %v has width %d, below the degeneracy %d", c.g.Next, order, got, least)
			}
		}
	}
}

// wantPerfect fails unless order is a perfect elimination order of the filled graph f of g.
func wantPerfect(t *testing.T, g impl.Graph, f impl.Graph, order []int64) {
	t.Helper()
	if !impl.PerfectIn(f, order) || impl.FillMany(f, order) != 0 {
		t.Fatalf("promise 7: %v is not perfect in %v, filled to %v", order, g.Next, f.Next)
	}
	again, is := impl.FillOf(f, order)
	wantGraph(t, fmt.Sprint("FillOf a filled graph ", order), again, is, f)
	// In a perfect order the later neighbours of each vertex are neighbours of each other.
	for v, set := range impl.LaterOf(f, order) {
		for i, u := range set {
			for _, w := range set[:i] {
				if !near(f, int(u), int(w)) {
					t.Fatalf("promise 7: %d and %d behind %d in %v of %v", u, w, v, order, f.Next)
				}
			}
		}
	}
}

// Promise 7, second part.
func TestFilledGraphsHaveTheirOrderAsAPerfectOne(t *testing.T) {
	for _, c := range append(smallOrdered(), greatOrdered()...) {
		for _, order := range c.orders {
			f, is := impl.FillOf(c.g, order)
			if !is || len(f.Next) != len(c.g.Next) {
				t.Fatal("promise 7", c.g.Next, order, f.Next, is)
			}
			for v, row := range c.g.Next {
				for _, u := range row {
					if !near(f, v, int(u)) {
						t.Fatal("promise 7: the filled graph lacks", v, u, c.g.Next, order, f.Next)
					}
				}
			}
			wantPerfect(t, c.g, f, order)
			if impl.OrderWidth(f, order) != impl.OrderWidth(c.g, order) {
				t.Fatal("promise 7: the filled graph has another width", c.g.Next, order, f.Next)
			}
		}
	}
}

func TestGreedyOrdersOfEveryGraph(t *testing.T) {
	for _, g := range greedyGraphs() {
		wantList(t, fmt.Sprint("ByDegree ", g.Next), impl.ByDegree(g), trueByDegree(g)...)
		wantList(t, fmt.Sprint("ByFill ", g.Next), impl.ByFill(g), trueByFill(g)...)
	}
}

func TestDegeneracyOfEverySmallGraph(t *testing.T) {
	for _, g := range greedyGraphs() {
		if len(g.Next) > 9 {
			continue
		}
		if got, want := impl.DegeneracyOf(g), trueDegeneracy(g); got != want {
			t.Fatalf("DegeneracyOf %v: got %d, want %d", g.Next, got, want)
		}
	}
	for _, g := range []impl.Graph{ringGraph(16, 1), ringGraph(16, 5), cubeGraph(), twoSidedGraph(16), manyParted(16, 5), starGraph(16, 7)} {
		if got, want := impl.DegeneracyOf(g), trueDegeneracy(g); got != want {
			t.Fatalf("DegeneracyOf %v: got %d, want %d", g.Next, got, want)
		}
	}
}

// hangingSquare returns a square 2-3-4-5 with vertex 1 on 2, and vertex 0 alone.
func hangingSquare() impl.Graph {
	return fromEdges(6, [2]int{1, 2}, [2]int{2, 3}, [2]int{3, 4}, [2]int{4, 5}, [2]int{2, 5})
}

// Several vertices are equal in each of these: the smallest one goes first.
func TestGreedyOrdersAmongEquals(t *testing.T) {
	for _, c := range []struct {
		name           string
		g              impl.Graph
		degree, filled []int64
	}{
		{"square", ringGraph(4, 1), []int64{0, 1, 2, 3}, []int64{0, 1, 2, 3}},
		{"star with centre 0", starGraph(4, 0), []int64{1, 2, 0, 3}, []int64{1, 2, 0, 3}},
		{"star with centre 2", starGraph(5, 2), []int64{0, 1, 3, 2, 4}, []int64{0, 1, 3, 2, 4}},
		{"star with the last centre", starGraph(5, 4), []int64{0, 1, 2, 3, 4}, []int64{0, 1, 2, 3, 4}},
		{"path", fromPairs(5, func(u, v int) bool { return v-u == 1 }), []int64{0, 1, 2, 3, 4}, []int64{0, 1, 2, 3, 4}},
		{"path 2-0-1-3", fromEdges(4, [2]int{0, 2}, [2]int{0, 1}, [2]int{1, 3}), []int64{2, 0, 1, 3}, []int64{2, 0, 1, 3}},
		{"two edges", twoEdges(), []int64{4, 0, 3, 1, 2}, []int64{0, 1, 2, 3, 4}},
		{"two sides of 2 and 3", fromPairs(5, func(u, v int) bool { return u < 2 && v >= 2 }), []int64{2, 3, 0, 1, 4}, []int64{2, 3, 0, 1, 4}},
		{"hanging square", hangingSquare(), []int64{0, 1, 2, 3, 4, 5}, []int64{0, 1, 2, 3, 4, 5}},
		// The neighbours of 0 are all neighbours of each other, those of 4 and 5 are not.
		{"four and a path round", fromEdges(6, [2]int{0, 1}, [2]int{0, 2}, [2]int{0, 3}, [2]int{1, 2}, [2]int{1, 3}, [2]int{2, 3}, [2]int{3, 4}, [2]int{4, 5}, [2]int{2, 5}), []int64{4, 5, 0, 1, 2, 3}, []int64{0, 1, 2, 3, 4, 5}},
	} {
		wantList(t, c.name+", ByDegree", impl.ByDegree(c.g), c.degree...)
		wantList(t, c.name+", ByFill", impl.ByFill(c.g), c.filled...)
	}
	for n := 1; n <= impl.MaxV; n++ {
		for _, g := range []impl.Graph{emptyGraph(n), fullGraph(n), fromPairs(n, func(u, v int) bool { return v-u == 1 })} {
			wantList(t, "ByDegree", impl.ByDegree(g), upTo(n)...)
			wantList(t, "ByFill", impl.ByFill(g), upTo(n)...)
		}
	}
}

// Only the remaining neighbours count: 0 is a neighbour of 1 and 2, but has only 2 left after 1 went,
// and so it goes before 2. The edges that have arisen count too: in the square 0-2-1-3, eliminating
// 0 makes 2 and 3 neighbours, so that they have no fewer neighbours than 1 then, and nothing is
// missing between those of 1.
func TestGreedyOrdersCountWhatRemains(t *testing.T) {
	path := fromEdges(3, [2]int{0, 1}, [2]int{0, 2})
	wantList(t, "ByDegree of a path", impl.ByDegree(path), 1, 0, 2)
	wantList(t, "ByFill of a path", impl.ByFill(path), 1, 0, 2)
	square := fromEdges(4, [2]int{0, 2}, [2]int{0, 3}, [2]int{1, 2}, [2]int{1, 3})
	wantList(t, "ByDegree of a square", impl.ByDegree(square), 0, 1, 2, 3)
	wantList(t, "ByFill of a square", impl.ByFill(square), 0, 1, 2, 3)
}

// The vertex with the fewest neighbours, 2, is not the one whose neighbours lack the fewest edges, 3.
func TestGreedyOrdersAreDifferent(t *testing.T) {
	g := fromEdges(6, [2]int{0, 1}, [2]int{0, 3}, [2]int{0, 4}, [2]int{0, 5}, [2]int{1, 3}, [2]int{1, 4}, [2]int{1, 5}, [2]int{2, 3}, [2]int{2, 4}, [2]int{2, 5})
	wantList(t, "ByDegree", impl.ByDegree(g), 2, 0, 1, 3, 4, 5)
	wantList(t, "ByFill", impl.ByFill(g), 3, 4, 0, 1, 2, 5)
}

// The removal for the degeneracy adds no edges: the centre of a star would otherwise have as many
// neighbours as there are.
func TestKnownDegeneracies(t *testing.T) {
	for n := 1; n <= impl.MaxV; n++ {
		for name, c := range map[string]struct {
			g    impl.Graph
			want int
		}{
			"without edges":    {emptyGraph(n), 0},
			"complete":         {fullGraph(n), n - 1},
			"star":             {starGraph(n, 0), min(n-1, 1)},
			"other star":       {starGraph(n, n-1), min(n-1, 1)},
			"path":             {fromPairs(n, func(u, v int) bool { return v-u == 1 }), min(n-1, 1)},
			"tree":             {fromPairs(n, func(u, v int) bool { return (v-1)/2 == u }), min(n-1, 1)},
			"two sides":        {twoSidedGraph(n), n / 2},
			"one and a clique": {fromPairs(n, func(u, v int) bool { return u > 0 }), max(n-2, 0)},
			"ring":             {ringGraph(n, 1), min(n-1, 2)},
		} {
			if got := impl.DegeneracyOf(c.g); got != int64(c.want) {
				t.Errorf("%s of %d vertices: got %d, want %d", name, n, got, c.want)
			}
		}
	}
	for _, c := range []struct {
		g    impl.Graph
		want int64
	}{{cubeGraph(), 4}, {petersenGraph(), 3}, {squareAndPentagon(), 2}, {crossed(16), 3}, {hangingSquare(), 2}} {
		if got := impl.DegeneracyOf(c.g); got != c.want {
			t.Errorf("%v: got %d, want %d", c.g.Next, got, c.want)
		}
	}
}

func TestOrderOfOneVertex(t *testing.T) {
	g := emptyGraph(1)
	one := []int64{0}
	f, is := impl.FillOf(g, one)
	wantGraph(t, "FillOf", f, is, g)
	if got := impl.LaterOf(g, one); !sameLists(got, [][]int64{{}}) {
		t.Error("LaterOf", got)
	}
	if impl.OrderWidth(g, one) != 0 || impl.FillMany(g, one) != 0 || !impl.PerfectIn(g, one) || impl.DegeneracyOf(g) != 0 {
		t.Error(impl.OrderWidth(g, one), impl.FillMany(g, one), impl.PerfectIn(g, one), impl.DegeneracyOf(g))
	}
	wantList(t, "ByDegree", impl.ByDegree(g), 0)
	wantList(t, "ByFill", impl.ByFill(g), 0)
}

func TestOrdersWithoutEdgesAndComplete(t *testing.T) {
	for n := 1; n <= impl.MaxV; n++ {
		empty, full := emptyGraph(n), fullGraph(n)
		for _, order := range someOrders(n) {
			f, is := impl.FillOf(empty, order)
			wantGraph(t, "FillOf without edges", f, is, empty)
			f, is = impl.FillOf(full, order)
			wantGraph(t, "FillOf complete", f, is, full)
			if impl.OrderWidth(empty, order) != 0 || impl.OrderWidth(full, order) != int64(n-1) {
				t.Fatal("OrderWidth", n, order)
			}
			if !impl.PerfectIn(empty, order) || !impl.PerfectIn(full, order) || impl.FillMany(empty, order) != 0 || impl.FillMany(full, order) != 0 {
				t.Fatal("PerfectIn", n, order)
			}
			none, all := impl.LaterOf(empty, order), impl.LaterOf(full, order)
			if len(none) != n || len(all) != n || manyEnds(none) != 0 {
				t.Fatal("LaterOf", n, order, none, all)
			}
			for i, v := range order {
				behind := slices.Clone(order[i+1:])
				slices.Sort(behind)
				wantList(t, "LaterOf complete", all[v], behind...)
			}
		}
	}
}

func TestOrdersOfMostVertices(t *testing.T) {
	star := starGraph(impl.MaxV, 0)
	up := upTo(impl.MaxV)
	down := slices.Clone(up)
	slices.Reverse(down)
	f, is := impl.FillOf(star, up)
	wantGraph(t, "star from its centre", f, is, fullGraph(impl.MaxV))
	f, is = impl.FillOf(star, down)
	wantGraph(t, "star to its centre", f, is, star)
	ring := ringGraph(impl.MaxV, 1)
	f, is = impl.FillOf(ring, up)
	wantGraph(t, "ring", f, is, fromPairs(impl.MaxV, func(u, v int) bool { return v-u == 1 || v == impl.MaxV-1 }))
	for _, c := range []struct {
		name        string
		g           impl.Graph
		order       []int64
		width, fill int64
	}{
		{"star from its centre", star, up, 15, 105},
		{"star to its centre", star, down, 1, 0},
		{"ring", ring, up, 2, 13},
		{"two sides", twoSidedGraph(impl.MaxV), up, 8, 28},
		{"cube", cubeGraph(), trueByDegree(cubeGraph()), longest(trueLater(cubeGraph(), trueByDegree(cubeGraph()))), int64(manyEnds(trueLater(cubeGraph(), trueByDegree(cubeGraph())))) - 32},
	} {
		if impl.OrderWidth(c.g, c.order) != c.width || impl.FillMany(c.g, c.order) != c.fill || impl.PerfectIn(c.g, c.order) != (c.fill == 0) {
			t.Errorf("%s: %d %d, want %d %d", c.name, impl.OrderWidth(c.g, c.order), impl.FillMany(c.g, c.order), c.width, c.fill)
		}
	}
	wantList(t, "ByDegree of a star", impl.ByDegree(star), 1, 2, 3, 4, 5, 6, 7, 8, 9, 10, 11, 12, 13, 14, 0, 15)
	wantList(t, "ByFill of a star", impl.ByFill(star), 1, 2, 3, 4, 5, 6, 7, 8, 9, 10, 11, 12, 13, 14, 0, 15)
	wantList(t, "ByDegree of a ring", impl.ByDegree(ring), up...)
}

// wantNoOrdered fails unless the functions of an order return their zero values.
func wantNoOrdered(t *testing.T, name string, g impl.Graph, order []int64) {
	t.Helper()
	f, is := impl.FillOf(g, order)
	wantNone(t, name+", FillOf", f, is)
	if got := impl.LaterOf(g, order); len(got) != 0 {
		t.Errorf("%s, LaterOf: %v", name, got)
	}
	if got := impl.OrderWidth(g, order); got != -1 {
		t.Errorf("%s, OrderWidth: %d", name, got)
	}
	if got := impl.FillMany(g, order); got != -1 {
		t.Errorf("%s, FillMany: %d", name, got)
	}
	if impl.PerfectIn(g, order) {
		t.Errorf("%s, PerfectIn", name)
	}
}

// badOrders returns lists that are no orders of a graph of n vertices.
func badOrders(n int) map[string][]int64 {
	up := upTo(n)
	with := func(at int, v int64) []int64 {
		out := slices.Clone(up)
		out[at] = v
		return out
	}
	list := map[string][]int64{
		"nil":                  nil,
		"empty":                {},
		"too short":            up[:n-1],
		"too short at the top": up[1:],
		"one more":             append(slices.Clone(up), int64(n)),
		"the last one again":   append(slices.Clone(up), int64(n-1)),
		"the first one again":  append(slices.Clone(up), 0),
		"all of them again":    append(slices.Clone(up), up...),
		"very long":            slices.Repeat(up, 50000),
		"too many vertices":    upTo(impl.MaxV + 1),
		"very many vertices":   upTo(100000),
	}
	if n > 1 {
		list["the first one twice"] = with(n-1, 0)
		list["the last one twice"] = with(0, int64(n-1))
		list["one vertex only"] = slices.Repeat([]int64{0}, n)
	}
	far := append([]int64{int64(n), int64(n + 1), math.MaxInt64 - 1, math.MinInt64 + 1}, farVertices...)
	for _, v := range far {
		if v < int64(n) && v >= 0 {
			continue
		}
		for _, at := range []int{0, n / 2, n - 1} {
			list[fmt.Sprint(v, " at ", at)] = with(at, v)
		}
		list[fmt.Sprint(v, " only")] = []int64{v}
		list[fmt.Sprint(v, " more")] = append(slices.Clone(up), v)
		list[fmt.Sprint(v, " everywhere")] = slices.Repeat([]int64{v}, n)
	}
	return list
}

func TestListsThatAreNoOrders(t *testing.T) {
	for _, g := range []impl.Graph{house(), emptyGraph(1), emptyGraph(2), fullGraph(3), emptyGraph(impl.MaxV), fullGraph(impl.MaxV), fullGraph(impl.MaxV - 1), cubeGraph()} {
		for name, order := range badOrders(len(g.Next)) {
			wantNoOrdered(t, fmt.Sprint(name, " of ", len(g.Next)), g, order)
		}
	}
}

func TestEveryShortListAsAnOrder(t *testing.T) {
	for n := 1; n <= 3; n++ {
		lists := [][]int64{}
		for length := range n + 2 {
			lists = append(lists, allSlices(length, -1, int64(n))...)
		}
		for _, g := range allGraphs(n) {
			for _, order := range lists {
				if isOrder(n, order) {
					wantOrdered(t, g, order)
				} else {
					wantNoOrdered(t, fmt.Sprint(g.Next, order), g, order)
				}
			}
		}
	}
}

func TestOrdersOfInvalidGraphs(t *testing.T) {
	for _, bad := range badGraphs() {
		n := len(bad.g.Next)
		down := upTo(n)
		slices.Reverse(down)
		for _, order := range [][]int64{nil, {}, {0}, upTo(n), down, upTo(n + 1), {0, 1, 2, 3, 4}, {2, 0, 1, 3, 4}, {math.MaxInt64}, {math.MinInt64}} {
			wantNoOrdered(t, bad.name, bad.g, order)
		}
		wantList(t, bad.name+", ByDegree", impl.ByDegree(bad.g))
		wantList(t, bad.name+", ByFill", impl.ByFill(bad.g))
		if got := impl.DegeneracyOf(bad.g); got != -1 {
			t.Errorf("%s, DegeneracyOf: %d", bad.name, got)
		}
	}
}

// orderCall is a call of one function of the chapter; its lists are all that the function returns.
type orderCall struct {
	name string
	call func(g impl.Graph, order []int64) [][]int64
}

// orderCalls returns calls of every function of the chapter.
func orderCalls() []orderCall {
	return []orderCall{
		{"FillOf", func(g impl.Graph, order []int64) [][]int64 { f, _ := impl.FillOf(g, order); return f.Next }},
		{"LaterOf", impl.LaterOf},
		{"OrderWidth", func(g impl.Graph, order []int64) [][]int64 { return [][]int64{{impl.OrderWidth(g, order)}} }},
		{"FillMany", func(g impl.Graph, order []int64) [][]int64 { return [][]int64{{impl.FillMany(g, order)}} }},
		{"PerfectIn", func(g impl.Graph, order []int64) [][]int64 { impl.PerfectIn(g, order); return nil }},
		{"ByDegree", func(g impl.Graph, _ []int64) [][]int64 { return [][]int64{impl.ByDegree(g)} }},
		{"ByFill", func(g impl.Graph, _ []int64) [][]int64 { return [][]int64{impl.ByFill(g)} }},
		{"DegeneracyOf", func(g impl.Graph, _ []int64) [][]int64 { return [][]int64{{impl.DegeneracyOf(g)}} }},
	}
}

// Promise 35, for graphs and orders that are not valid too: they are arguments like others.
func TestOrderArgumentsStay(t *testing.T) {
	all := someGraphs()
	for _, bad := range badGraphs() {
		if len(bad.g.Next) <= impl.MaxV+1 {
			all = append(all, bad.g)
		}
	}
	for _, g := range all {
		n := len(g.Next)
		lists := [][]int64{{}, {0}, {0, 0, 1}, {4, 0, 3, 1, 2}, {-1, 0, math.MaxInt64, math.MinInt64}, upTo(n), upTo(n + 1)}
		if n <= impl.MaxV {
			lists = append(lists, someOrders(n)[:min(6, len(someOrders(n)))]...)
		}
		p, store := packedGraph(g)
		orders, orderStore := packed(lists)
		_, want := packed(lists)
		for _, order := range orders {
			for _, c := range orderCalls() {
				c.call(p, order)
				intact(t, c.name, p, store, g)
				if !sameLists(orders, lists) || !slices.Equal(orderStore, want) {
					t.Fatal(c.name, "changed its order", orderStore)
				}
			}
		}
	}
}

// Promise 35: a result keeps its value when the arguments are overwritten, and the other way
// round; its slices are apart.
func TestOrderResultsAreNewMemory(t *testing.T) {
	for _, g := range append(someGraphs(), house(), cubeGraph()) {
		for _, c := range orderCalls() {
			order := someOrders(len(g.Next))[len(someOrders(len(g.Next)))/2]
			p, store := packedGraph(g)
			orders, orderStore := packed([][]int64{order})
			_, orderWant := packed([][]int64{order})
			got := c.call(p, orders[0])
			want := copied(got)
			apart(t, c.name, got)
			for _, list := range got {
				whole := list[:cap(list)]
				for i := range whole {
					whole[i] = guard
				}
			}
			intact(t, c.name, p, store, g)
			if !slices.Equal(orderStore, orderWant) {
				t.Fatal(c.name, "shares memory with its order", g.Next)
			}
			got = c.call(p, orders[0])
			for _, memory := range [][]int64{store, orderStore} {
				for i := range memory {
					memory[i] = guard
				}
			}
			clear(p.Next[:cap(p.Next)])
			if !sameLists(got, want) {
				t.Fatal(c.name, "shares memory with an argument", g.Next)
			}
		}
	}
}

// The rows of FillOf's graph and of LaterOf are cleared too, which must not change a later result.
func TestOrderResultsOfTwoCallsAreApart(t *testing.T) {
	for _, g := range []impl.Graph{house(), emptyGraph(1), emptyGraph(impl.MaxV), fullGraph(impl.MaxV), cubeGraph(), starGraph(impl.MaxV, 0)} {
		order := upTo(len(g.Next))
		for _, c := range orderCalls() {
			first := c.call(g, order)
			second := c.call(g, order)
			want := copied(first)
			if !sameLists(second, want) {
				t.Fatal(c.name, "returns something else the second time", first, second)
			}
			apart(t, c.name, slices.Concat(first, second))
			for _, row := range first {
				clear(row)
			}
			clear(first[:cap(first)])
			if third := c.call(g, order); !sameLists(second, want) || !sameLists(third, want) {
				t.Fatal(c.name, "keeps what it returned", second, third)
			}
		}
	}
}
