package tests

import (
	"math"
	"slices"
	"testing"

	"loop.example/g00871/impl"
)

// farVertices are numbers that no graph has as a vertex.
var farVertices = []int64{-1, -16, -64, math.MinInt64, impl.MaxV, impl.MaxV + 1, 32, 64, 1 << 32, math.MaxInt64}

// near says whether u and v are neighbours in the valid graph g, without the program.
func near(g impl.Graph, u, v int) bool {
	return slices.Contains(g.Next[u], int64(v))
}

// wantGraph fails unless an edit returned a valid graph with exactly these neighbours, and true.
func wantGraph(t *testing.T, name string, got impl.Graph, is bool, want impl.Graph) {
	t.Helper()
	if !is || !impl.GraphOk(got) || !sameLists(got.Next, want.Next) {
		t.Fatalf("%s: got %v %v, want %v", name, got.Next, is, want.Next)
	}
}

// wantNone fails unless an edit returned the zero Graph and false.
func wantNone(t *testing.T, name string, got impl.Graph, is bool) {
	t.Helper()
	if is || len(got.Next) != 0 {
		t.Fatalf("%s: got %v %v, want the zero Graph and false", name, got.Next, is)
	}
}

// rows is short for the graph with these neighbours.
func rows(next ...[]int64) impl.Graph {
	return impl.Graph{Next: next}
}

// upTo returns 0, ..., n-1.
func upTo(n int) []int64 {
	out := []int64{}
	for v := range int64(n) {
		out = append(out, v)
	}
	return out
}

// pickedGraph is what Induced and Renamed should return: list[i] becomes vertex i.
func pickedGraph(g impl.Graph, list []int64) impl.Graph {
	return fromPairs(len(list), func(i, j int) bool { return near(g, int(list[i]), int(list[j])) })
}

// subsetOf returns the vertices below n whose bit is set in code.
func subsetOf(n, code int) []int64 {
	out := []int64{}
	for v := range n {
		if code>>v&1 == 1 {
			out = append(out, int64(v))
		}
	}
	return out
}

// someSubsets returns every set of up to six vertices, and of more vertices a fixed choice that
// has the empty set, all single vertices and all vertices.
func someSubsets(n int) [][]int64 {
	out := [][]int64{}
	step := 1
	if n > 6 {
		step = 37 * (n - 6)
	}
	for code := 0; code < 1<<n; code += step {
		out = append(out, subsetOf(n, code))
	}
	if n > 6 {
		for v := range n {
			out = append(out, []int64{int64(v)})
		}
		out = append(out, upTo(n))
	}
	return out
}

// someOrders returns every order of up to four vertices, and of more vertices the rotations of an
// ascending, a descending and a mixed one.
func someOrders(n int) [][]int64 {
	out := [][]int64{}
	if n <= 4 {
		for _, s := range allSlices(n, 0, int64(n-1)) {
			if isOrder(n, s) {
				out = append(out, s)
			}
		}
		return out
	}
	down := upTo(n)
	slices.Reverse(down)
	mixed := []int64{}
	for i := range n / 2 {
		mixed = append(mixed, int64(n-1-i), int64(i))
	}
	if n%2 == 1 {
		mixed = append(mixed, int64(n/2))
	}
	for k := range n {
		for _, o := range [][]int64{upTo(n), down, mixed} {
			out = append(out, slices.Concat(o[k:], o[:k]))
		}
	}
	return out
}

// allSlices returns every slice of this length with elements from low to high.
func allSlices(length int, low, high int64) [][]int64 {
	out := [][]int64{{}}
	for range length {
		longer := [][]int64{}
		for _, s := range out {
			for v := low; v <= high; v++ {
				longer = append(longer, append(slices.Clone(s), v))
			}
		}
		out = longer
	}
	return out
}

// isSet says whether s is a strictly increasing slice of vertices below n.
func isSet(n int, s []int64) bool {
	for i, v := range s {
		if v < 0 || v >= int64(n) || i > 0 && s[i-1] >= v {
			return false
		}
	}
	return true
}

// isOrder says whether s holds each vertex below n exactly once.
func isOrder(n int, s []int64) bool {
	sorted := slices.Clone(s)
	slices.Sort(sorted)
	return slices.Equal(sorted, upTo(n))
}

func TestEditExamples(t *testing.T) {
	added, is := impl.AddedEdge(house(), 3, 1)
	wantGraph(t, "AddedEdge", added, is, rows([]int64{1, 3}, []int64{0, 2, 3}, []int64{1, 3, 4}, []int64{0, 1, 2, 4}, []int64{2, 3}))
	g, is := impl.CutEdge(added, 3, 1)
	wantGraph(t, "CutEdge", g, is, house())
	g, is = impl.AddedVertex(house(), []int64{0, 4})
	wantGraph(t, "AddedVertex", g, is, rows([]int64{1, 3, 5}, []int64{0, 2}, []int64{1, 3, 4}, []int64{0, 2, 4}, []int64{2, 3, 5}, []int64{0, 4}))
	g, is = impl.CutVertex(house(), 1)
	wantGraph(t, "CutVertex", g, is, rows([]int64{2}, []int64{2, 3}, []int64{0, 1, 3}, []int64{1, 2}))
	g, is = impl.Complement(house())
	wantGraph(t, "Complement", g, is, rows([]int64{2, 4}, []int64{3, 4}, []int64{0}, []int64{1}, []int64{0, 1}))
	g, is = impl.Induced(house(), []int64{2, 3, 4})
	wantGraph(t, "Induced", g, is, fullGraph(3))
	g, is = impl.Renamed(house(), []int64{4, 3, 2, 1, 0})
	wantGraph(t, "Renamed", g, is, rows([]int64{1, 2}, []int64{0, 2, 4}, []int64{0, 1, 3}, []int64{2, 4}, []int64{1, 3}))
	g, is = impl.Beside(fullGraph(2), emptyGraph(1))
	wantGraph(t, "Beside", g, is, rows([]int64{1}, []int64{0}, nil))
	g, is = impl.JoinedGraph(fullGraph(2), emptyGraph(1))
	wantGraph(t, "JoinedGraph", g, is, fullGraph(3))
	g, is = impl.Contracted(house(), 3, 2)
	wantGraph(t, "Contracted", g, is, rows([]int64{1, 2}, []int64{0, 2}, []int64{0, 1, 3}, []int64{2}))
}

// Promise 2: cutting an added edge and adding a cut edge restore the graph, whichever vertex is
// named first.
func TestEdgeThereAndBack(t *testing.T) {
	for _, g := range someGraphs() {
		for u := range int64(len(g.Next)) {
			for v := range int64(len(g.Next)) {
				if u == v {
					continue
				}
				there, back := impl.AddedEdge, impl.CutEdge
				if near(g, int(u), int(v)) {
					there, back = impl.CutEdge, impl.AddedEdge
				}
				changed, is := there(g, u, v)
				if !is || impl.SameGraph(changed, g) {
					t.Fatal(g, u, v, changed)
				}
				same, is := back(changed, u, v)
				wantGraph(t, "back", same, is, g)
				same, is = back(changed, v, u)
				wantGraph(t, "back, exchanged", same, is, g)
			}
		}
	}
}

// Promise 2: cutting an added vertex restores the graph.
func TestVertexThereAndBack(t *testing.T) {
	for _, g := range someGraphs() {
		n := len(g.Next)
		if n == impl.MaxV {
			continue
		}
		for _, next := range someSubsets(n) {
			more, is := impl.AddedVertex(g, next)
			if !is || len(more.Next) != n+1 {
				t.Fatal(g, next, more)
			}
			same, is := impl.CutVertex(more, int64(n))
			wantGraph(t, "CutVertex", same, is, g)
		}
	}
}

// Promise 2: the complement of the complement is the graph.
func TestComplementTwice(t *testing.T) {
	for _, g := range someGraphs() {
		n := int64(len(g.Next))
		other, is := impl.Complement(g)
		if !is || impl.ManyEdges(g)+impl.ManyEdges(other) != n*(n-1)/2 {
			t.Fatal(g, other)
		}
		same, is := impl.Complement(other)
		wantGraph(t, "Complement", same, is, g)
	}
}

// An order keeps the number of edges, and its inverse restores the graph.
func TestRenamedKeepsTheEdges(t *testing.T) {
	for _, g := range someGraphs() {
		for _, order := range someOrders(len(g.Next)) {
			other, is := impl.Renamed(g, order)
			if !is || impl.ManyEdges(other) != impl.ManyEdges(g) || !slices.Equal(impl.DegreesOf(other), impl.DegreesOf(g)) {
				t.Fatal(g, order, other)
			}
			inverse := make([]int64, len(order))
			for i, v := range order {
				inverse[v] = int64(i)
			}
			same, is := impl.Renamed(other, inverse)
			wantGraph(t, "Renamed", same, is, g)
		}
	}
}

func TestEveryEdgeEdit(t *testing.T) {
	for _, g := range someGraphs() {
		n := len(g.Next)
		for u := range n {
			for v := range n {
				pair := []int{min(u, v), max(u, v)}
				isPair := func(x, y int) bool { return x == pair[0] && y == pair[1] }
				more := fromPairs(n, func(x, y int) bool { return near(g, x, y) || isPair(x, y) })
				less := fromPairs(n, func(x, y int) bool { return near(g, x, y) && !isPair(x, y) })
				added, canAdd := impl.AddedEdge(g, int64(u), int64(v))
				cut, canCut := impl.CutEdge(g, int64(u), int64(v))
				switch {
				case u == v:
					wantNone(t, "AddedEdge, u equal to v", added, canAdd)
					wantNone(t, "CutEdge, u equal to v", cut, canCut)
				case near(g, u, v):
					wantNone(t, "AddedEdge, edge exists", added, canAdd)
					wantGraph(t, "CutEdge", cut, canCut, less)
				default:
					wantGraph(t, "AddedEdge", added, canAdd, more)
					wantNone(t, "CutEdge, no edge", cut, canCut)
				}
			}
		}
	}
}

func TestEveryContraction(t *testing.T) {
	for _, g := range someGraphs() {
		n := len(g.Next)
		for u := range n {
			for v := range n {
				got, is := impl.Contracted(g, int64(u), int64(v))
				if u == v || !near(g, u, v) {
					wantNone(t, "Contracted, no edge", got, is)
					continue
				}
				kept, gone := min(u, v), max(u, v)
				old := func(x int) int {
					if x >= gone {
						return x + 1
					}
					return x
				}
				want := fromPairs(n-1, func(x, y int) bool {
					x, y = old(x), old(y)
					return near(g, x, y) || x == kept && near(g, gone, y) || y == kept && near(g, gone, x)
				})
				wantGraph(t, "Contracted", got, is, want)
			}
		}
	}
}

func TestEveryVertexEdit(t *testing.T) {
	for _, g := range someGraphs() {
		n := len(g.Next)
		for v := range n {
			got, is := impl.CutVertex(g, int64(v))
			if n == 1 {
				wantNone(t, "CutVertex, the only vertex", got, is)
				continue
			}
			rest := slices.Delete(upTo(n), v, v+1)
			wantGraph(t, "CutVertex", got, is, pickedGraph(g, rest))
		}
		for _, next := range someSubsets(n) {
			got, is := impl.AddedVertex(g, next)
			if n == impl.MaxV {
				wantNone(t, "AddedVertex, MaxV vertices", got, is)
				continue
			}
			want := fromPairs(n+1, func(x, y int) bool {
				if y == n {
					return slices.Contains(next, int64(x))
				}
				return near(g, x, y)
			})
			wantGraph(t, "AddedVertex", got, is, want)
		}
	}
}

func TestEveryComplement(t *testing.T) {
	for _, g := range someGraphs() {
		got, is := impl.Complement(g)
		wantGraph(t, "Complement", got, is, fromPairs(len(g.Next), func(x, y int) bool { return !near(g, x, y) }))
	}
}

func TestEveryInducedAndRenamed(t *testing.T) {
	for _, g := range someGraphs() {
		n := len(g.Next)
		for _, set := range someSubsets(n) {
			got, is := impl.Induced(g, set)
			if len(set) == 0 {
				wantNone(t, "Induced, empty set", got, is)
				continue
			}
			wantGraph(t, "Induced", got, is, pickedGraph(g, set))
		}
		whole, is := impl.Induced(g, upTo(n))
		wantGraph(t, "Induced, all vertices", whole, is, g)
		for _, order := range someOrders(n) {
			got, is := impl.Renamed(g, order)
			wantGraph(t, "Renamed", got, is, pickedGraph(g, order))
		}
	}
}

func TestEveryUnionAndJoin(t *testing.T) {
	for _, a := range someGraphs() {
		for _, b := range someGraphs() {
			n, m := len(a.Next), len(b.Next)
			both, canBoth := impl.Beside(a, b)
			joined, canJoin := impl.JoinedGraph(a, b)
			if n+m > impl.MaxV {
				wantNone(t, "Beside, too many vertices", both, canBoth)
				wantNone(t, "JoinedGraph, too many vertices", joined, canJoin)
				continue
			}
			inside := func(x, y int) bool { return y < n && near(a, x, y) || x >= n && near(b, x-n, y-n) }
			wantGraph(t, "Beside", both, canBoth, fromPairs(n+m, inside))
			across := func(x, y int) bool { return inside(x, y) || x < n && y >= n }
			wantGraph(t, "JoinedGraph", joined, canJoin, fromPairs(n+m, across))
		}
	}
}

func TestUnionAndJoinAtTheLimit(t *testing.T) {
	for n := 1; n < impl.MaxV; n++ {
		m := impl.MaxV - n
		got, is := impl.Beside(emptyGraph(n), emptyGraph(m))
		wantGraph(t, "Beside", got, is, emptyGraph(impl.MaxV))
		got, is = impl.JoinedGraph(fullGraph(n), fullGraph(m))
		wantGraph(t, "JoinedGraph", got, is, fullGraph(impl.MaxV))
		for _, more := range [][2]int{{n + 1, m}, {n, m + 1}} {
			got, is = impl.Beside(emptyGraph(more[0]), emptyGraph(more[1]))
			wantNone(t, "Beside, 17 vertices", got, is)
			got, is = impl.JoinedGraph(fullGraph(more[0]), fullGraph(more[1]))
			wantNone(t, "JoinedGraph, 17 vertices", got, is)
		}
	}
	got, is := impl.Beside(emptyGraph(impl.MaxV), emptyGraph(impl.MaxV))
	wantNone(t, "Beside, 32 vertices", got, is)
}

func TestSmallestAndGreatestEdits(t *testing.T) {
	one, most := emptyGraph(1), fullGraph(impl.MaxV)
	got, is := impl.CutVertex(one, 0)
	wantNone(t, "CutVertex of the only vertex", got, is)
	got, is = impl.Complement(one)
	wantGraph(t, "Complement of one vertex", got, is, one)
	got, is = impl.Renamed(one, []int64{0})
	wantGraph(t, "Renamed of one vertex", got, is, one)
	got, is = impl.AddedVertex(one, nil)
	wantGraph(t, "AddedVertex without neighbours", got, is, emptyGraph(2))
	got, is = impl.AddedVertex(fullGraph(impl.MaxV-1), upTo(impl.MaxV-1))
	wantGraph(t, "AddedVertex up to MaxV", got, is, most)
	for _, next := range [][]int64{nil, {}, {0}, {15}, {16}, upTo(impl.MaxV)} {
		got, is = impl.AddedVertex(most, next)
		wantNone(t, "AddedVertex beyond MaxV", got, is)
	}
	got, is = impl.Complement(most)
	wantGraph(t, "Complement of MaxV vertices", got, is, emptyGraph(impl.MaxV))
	got, is = impl.Contracted(most, 15, 14)
	wantGraph(t, "Contracted of MaxV vertices", got, is, fullGraph(impl.MaxV-1))
	got, is = impl.Contracted(fullGraph(2), 1, 0)
	wantGraph(t, "Contracted to one vertex", got, is, one)
	got, is = impl.Beside(one, one)
	wantGraph(t, "Beside of one vertex twice", got, is, emptyGraph(2))
}

// Sets and orders are accepted exactly if they are valid.
func TestSetsAndOrdersThatAreAccepted(t *testing.T) {
	for n := 1; n <= 4; n++ {
		g := fromPairs(n, func(u, v int) bool { return v-u == 1 })
		for length := range n + 2 {
			for _, s := range allSlices(length, -1, int64(n)) {
				_, is := impl.Induced(g, s)
				if want := length > 0 && isSet(n, s); is != want || length > 0 && is != impl.SetOk(g, s) {
					t.Fatal("Induced", n, s, is)
				}
				_, is = impl.AddedVertex(g, s)
				if is != isSet(n, s) || is != impl.SetOk(g, s) {
					t.Fatal("AddedVertex", n, s, is)
				}
				_, is = impl.Renamed(g, s)
				if is != isOrder(n, s) || is != impl.OrderOk(g, s) {
					t.Fatal("Renamed", n, s, is)
				}
			}
		}
	}
}

func TestBadSetsAndOrders(t *testing.T) {
	sets := [][]int64{{1, 0}, {0, 0}, {4, 4}, {0, 2, 1}, {5}, {0, 5}, {-1}, {-1, 0}, {0, 1, 2, 3, 4, 5}, {0, 1, 2, 3, 4, 4}}
	orders := [][]int64{nil, {}, {0, 1, 2, 3}, {0, 1, 2, 3, 3}, {0, 0, 1, 2, 3}, {0, 1, 2, 3, 5}, {-1, 0, 1, 2, 3}, {0, 1, 2, 3, 4, 4}, {0, 1, 2, 3, 4, 5}, {0, 0, 0, 0, 0}}
	for _, far := range farVertices {
		sets = append(sets, []int64{far}, []int64{0, far}, []int64{far, 4})
		orders = append(orders, []int64{far, 1, 2, 3, 4}, []int64{0, 1, 2, 3, far})
	}
	for _, set := range sets {
		got, is := impl.Induced(house(), set)
		wantNone(t, "Induced", got, is)
		got, is = impl.AddedVertex(house(), set)
		wantNone(t, "AddedVertex", got, is)
	}
	for _, order := range orders {
		got, is := impl.Renamed(house(), order)
		wantNone(t, "Renamed", got, is)
	}
}

func TestForeignVertices(t *testing.T) {
	pairEdits := []struct {
		name string
		call func(impl.Graph, int64, int64) (impl.Graph, bool)
	}{
		{"AddedEdge", impl.AddedEdge},
		{"CutEdge", impl.CutEdge},
		{"Contracted", impl.Contracted},
	}
	for _, g := range []impl.Graph{emptyGraph(1), house(), emptyGraph(impl.MaxV), fullGraph(impl.MaxV)} {
		n := int64(len(g.Next))
		foreign := append([]int64{n, n + 1}, farVertices...)
		for _, u := range foreign {
			got, is := impl.CutVertex(g, u)
			wantNone(t, "CutVertex", got, is)
			for _, e := range pairEdits {
				for _, v := range append(upTo(len(g.Next)), foreign...) {
					got, is = e.call(g, u, v)
					wantNone(t, e.name, got, is)
					got, is = e.call(g, v, u)
					wantNone(t, e.name, got, is)
				}
			}
		}
	}
}

type graphEdit struct {
	name string
	call func(impl.Graph) (impl.Graph, bool)
}

// edits returns calls of every function of the chapter with one graph argument left open, in
// each place where a graph stands. The vertices, sets and orders suit a graph of n vertices.
func edits(n int) []graphEdit {
	last := int64(n - 1)
	down := upTo(n)
	slices.Reverse(down)
	odd := subsetOf(n, 0b1010101010101010)
	list := []graphEdit{
		{"AddedVertex none", func(g impl.Graph) (impl.Graph, bool) { return impl.AddedVertex(g, nil) }},
		{"AddedVertex odd", func(g impl.Graph) (impl.Graph, bool) { return impl.AddedVertex(g, odd) }},
		{"AddedVertex all", func(g impl.Graph) (impl.Graph, bool) { return impl.AddedVertex(g, upTo(n)) }},
		{"CutVertex first", func(g impl.Graph) (impl.Graph, bool) { return impl.CutVertex(g, 0) }},
		{"CutVertex last", func(g impl.Graph) (impl.Graph, bool) { return impl.CutVertex(g, last) }},
		{"Complement", impl.Complement},
		{"Induced first", func(g impl.Graph) (impl.Graph, bool) { return impl.Induced(g, []int64{0}) }},
		{"Induced odd", func(g impl.Graph) (impl.Graph, bool) { return impl.Induced(g, odd) }},
		{"Induced all", func(g impl.Graph) (impl.Graph, bool) { return impl.Induced(g, upTo(n)) }},
		{"Renamed up", func(g impl.Graph) (impl.Graph, bool) { return impl.Renamed(g, upTo(n)) }},
		{"Renamed down", func(g impl.Graph) (impl.Graph, bool) { return impl.Renamed(g, down) }},
		{"Beside, a", func(g impl.Graph) (impl.Graph, bool) { return impl.Beside(g, house()) }},
		{"Beside, b", func(g impl.Graph) (impl.Graph, bool) { return impl.Beside(house(), g) }},
		{"Beside, both", func(g impl.Graph) (impl.Graph, bool) { return impl.Beside(g, g) }},
		{"JoinedGraph, a", func(g impl.Graph) (impl.Graph, bool) { return impl.JoinedGraph(g, house()) }},
		{"JoinedGraph, b", func(g impl.Graph) (impl.Graph, bool) { return impl.JoinedGraph(house(), g) }},
		{"JoinedGraph, both", func(g impl.Graph) (impl.Graph, bool) { return impl.JoinedGraph(g, g) }},
	}
	pairs := [][2]int64{{0, 1}, {1, 0}, {0, last}, {last, 0}, {last, last - 1}, {last / 2, last}, {0, 0}}
	for _, p := range pairs {
		list = append(list,
			graphEdit{"AddedEdge", func(g impl.Graph) (impl.Graph, bool) { return impl.AddedEdge(g, p[0], p[1]) }},
			graphEdit{"CutEdge", func(g impl.Graph) (impl.Graph, bool) { return impl.CutEdge(g, p[0], p[1]) }},
			graphEdit{"Contracted", func(g impl.Graph) (impl.Graph, bool) { return impl.Contracted(g, p[0], p[1]) }},
		)
	}
	return list
}

func TestEditsOfInvalidGraphs(t *testing.T) {
	for _, bad := range badGraphs() {
		for n := 1; n <= impl.MaxV+1; n++ {
			for _, e := range edits(n) {
				got, is := e.call(bad.g)
				wantNone(t, e.name+" of "+bad.name, got, is)
			}
		}
		for u := range int64(5) {
			for v := range int64(5) {
				got, is := impl.AddedEdge(bad.g, u, v)
				wantNone(t, "AddedEdge of "+bad.name, got, is)
				got, is = impl.CutEdge(bad.g, u, v)
				wantNone(t, "CutEdge of "+bad.name, got, is)
				got, is = impl.Contracted(bad.g, u, v)
				wantNone(t, "Contracted of "+bad.name, got, is)
			}
		}
		got, is := impl.Beside(emptyGraph(1), bad.g)
		wantNone(t, "Beside of "+bad.name, got, is)
		got, is = impl.JoinedGraph(bad.g, emptyGraph(1))
		wantNone(t, "JoinedGraph of "+bad.name, got, is)
	}
}

// Promise 35, for invalid graphs too: they are arguments like others.
func TestEditedGraphsStay(t *testing.T) {
	all := someGraphs()
	for _, bad := range badGraphs() {
		if len(bad.g.Next) <= impl.MaxV+1 {
			all = append(all, bad.g)
		}
	}
	for _, g := range all {
		p, store := packedGraph(g)
		for _, e := range edits(len(g.Next)) {
			e.call(p)
			intact(t, e.name, p, store, g)
		}
	}
}

func TestListsOfEditsStay(t *testing.T) {
	lists := [][]int64{{}, {0}, {0, 4}, {4, 0}, {0, 1, 2, 3, 4}, {4, 0, 3, 1, 2}, {0, 1, 2, 3, 3}, {3, 4, 5, 6, 7}}
	args, store := packed(lists)
	_, want := packed(lists)
	for _, s := range args {
		impl.AddedVertex(house(), s)
		impl.Induced(house(), s)
		impl.Renamed(house(), s)
		if !sameLists(args, lists) || !slices.Equal(store, want) {
			t.Fatal("an edit changed its list", store)
		}
	}
}

// Promise 35: a result keeps its value when the argument is overwritten, and the other way round;
// its slices are apart.
func TestEditResultsAreNewMemory(t *testing.T) {
	for _, g := range someGraphs() {
		for _, e := range edits(len(g.Next)) {
			p, store := packedGraph(g)
			got, is := e.call(p)
			if !is {
				continue
			}
			want := copied(got.Next)
			apart(t, e.name, got.Next)
			for i := range store {
				store[i] = guard
			}
			clear(p.Next[:cap(p.Next)])
			if !sameLists(got.Next, want) {
				t.Fatal(e.name, "shares memory with its argument", g)
			}
			p, store = packedGraph(g)
			got, _ = e.call(p)
			for _, row := range got.Next {
				whole := row[:cap(row)]
				for i := range whole {
					whole[i] = guard
				}
			}
			clear(got.Next[:cap(got.Next)])
			intact(t, e.name, p, store, g)
		}
	}
}

func TestAddedVertexKeepsNoList(t *testing.T) {
	for _, list := range [][]int64{{}, {0}, {1, 3}, {0, 1, 2, 3, 4}} {
		args, store := packed([][]int64{list})
		got, _ := impl.AddedVertex(house(), args[0])
		for i := range store {
			store[i] = guard
		}
		if !slices.Equal(got.Next[5], list) {
			t.Error("the new vertex's neighbours are the argument", got)
		}
		whole := got.Next[5][:cap(got.Next[5])]
		for i := range whole {
			whole[i] = 0
		}
		if slices.ContainsFunc(store, func(v int64) bool { return v != guard }) {
			t.Error("the argument is the new vertex's neighbours", store)
		}
	}
}

func TestEditResultsOfTwoCallsAreApart(t *testing.T) {
	for _, e := range edits(5) {
		a, _ := e.call(house())
		b, _ := e.call(house())
		apart(t, e.name, append(a.Next, b.Next...))
	}
}
