package tests

import (
	"slices"
	"testing"

	"loop.example/g00871/impl"
)

// fromEdges returns the graph of n vertices with these edges, without the program.
func fromEdges(n int, edges ...[2]int) impl.Graph {
	return fromPairs(n, func(u, v int) bool { return slices.Contains(edges, [2]int{u, v}) })
}

// ringGraph returns n vertices in a circle, each a neighbour of those that are step places away:
// a single loop through all of them if n and step have no common divisor.
func ringGraph(n, step int) impl.Graph {
	return fromPairs(n, func(u, v int) bool { return v-u == step || v-u == n-step })
}

// twoSidedGraph returns the first n/2 vertices, each a neighbour of all the others.
func twoSidedGraph(n int) impl.Graph {
	return fromPairs(n, func(u, v int) bool { return u < n/2 && v >= n/2 })
}

// cubeGraph returns the 16 corners of the cube of four dimensions.
func cubeGraph() impl.Graph {
	return fromPairs(16, func(u, v int) bool { return slices.Contains([]int{1, 2, 4, 8}, u^v) })
}

// petersenGraph returns a pentagon 0 to 4, a star pentagon 5 to 9, and the edges between them.
func petersenGraph() impl.Graph {
	return fromPairs(10, func(u, v int) bool {
		return v < 5 && (v-u == 1 || v-u == 4) || u >= 5 && (v-u == 2 || v-u == 3) || v-u == 5
	})
}

// twoEdges returns the edges 0-3 and 1-2 on five vertices.
func twoEdges() impl.Graph {
	return rows([]int64{3}, []int64{2}, []int64{1}, []int64{0}, nil)
}

// squareAndPentagon returns a square 0-1-2-3 and a pentagon 0-4-5-6-7 that share vertex 0.
func squareAndPentagon() impl.Graph {
	return fromEdges(8, [2]int{0, 1}, [2]int{1, 2}, [2]int{2, 3}, [2]int{0, 3}, [2]int{0, 4}, [2]int{4, 5}, [2]int{5, 6}, [2]int{6, 7}, [2]int{0, 7})
}

// walkGraphs returns graphs with and without loops, in one component and in several.
func walkGraphs() []impl.Graph {
	list := append(someGraphs(), allGraphs(5)...)
	list = append(list, twoEdges(), squareAndPentagon(), cubeGraph(), petersenGraph())
	for n := 3; n <= impl.MaxV; n++ {
		list = append(list, ringGraph(n, 1), twoSidedGraph(n))
		list = append(list, fromPairs(n, func(u, v int) bool { return v-u == 1 }))
		list = append(list, fromPairs(n, func(u, v int) bool { return (v-1)/2 == u }))
		list = append(list, fromPairs(n, func(u, v int) bool { return u%3 == v%3 }))
		for step := 2; step < n/2; step++ {
			list = append(list, ringGraph(n, step))
		}
	}
	return list
}

// trueDistances returns the distances between all vertices, by going over each third vertex in
// turn; -1 where there is no path.
func trueDistances(g impl.Graph) [][]int64 {
	n := len(g.Next)
	const none = 1000
	far := make([][]int64, n)
	for u := range n {
		far[u] = slices.Repeat([]int64{none}, n)
		for _, v := range g.Next[u] {
			far[u][v] = 1
		}
		far[u][u] = 0
	}
	for w := range n {
		for u := range n {
			for v := range n {
				far[u][v] = min(far[u][v], far[u][w]+far[w][v])
			}
		}
	}
	for u := range n {
		for v := range n {
			if far[u][v] >= none {
				far[u][v] = -1
			}
		}
	}
	return far
}

// isPath says whether s is a path of the valid graph g.
func isPath(g impl.Graph, s []int64) bool {
	for i, v := range s {
		if v < 0 || v >= int64(len(g.Next)) || slices.Contains(s[:i], v) || i > 0 && !near(g, int(s[i-1]), int(v)) {
			return false
		}
	}
	return len(s) > 0
}

// isLoop says whether s is a loop of the valid graph g.
func isLoop(g impl.Graph, s []int64) bool {
	return len(s) >= 3 && isPath(g, s) && near(g, int(s[len(s)-1]), int(s[0]))
}

// firstPath tries the paths of this length that start with start, in ascending order, and returns
// the first one that accept takes, or nil.
func firstPath(g impl.Graph, start []int64, length int, accept func([]int64) bool) []int64 {
	if len(start) == length {
		if accept(start) {
			return start
		}
		return nil
	}
	for v := range int64(len(g.Next)) {
		longer := append(slices.Clone(start), v)
		if !isPath(g, longer) {
			continue
		}
		if found := firstPath(g, longer, length, accept); found != nil {
			return found
		}
	}
	return nil
}

// searchedPath tries all paths from u, shorter ones first, for one that ends in v.
func searchedPath(g impl.Graph, u, v int64) []int64 {
	for length := 1; length <= len(g.Next); length++ {
		found := firstPath(g, []int64{u}, length, func(s []int64) bool { return s[len(s)-1] == v })
		if found != nil {
			return found
		}
	}
	return nil
}

// searchedLoop tries all paths with 3, 3+step, 3+2*step, ... vertices for one that is a loop.
func searchedLoop(g impl.Graph, step int) []int64 {
	for length := 3; length <= len(g.Next); length += step {
		found := firstPath(g, nil, length, func(s []int64) bool { return isLoop(g, s) })
		if found != nil {
			return found
		}
	}
	return nil
}

// twoColourable tries all colourings with two colours.
func twoColourable(g impl.Graph) bool {
	edges := [][]int64{}
	for _, p := range allPairs(len(g.Next)) {
		if near(g, int(p[0]), int(p[1])) {
			edges = append(edges, p)
		}
	}
	for code := range 1 << len(g.Next) {
		same := func(e []int64) bool { return code>>e[0]&1 == code>>e[1]&1 }
		if !slices.ContainsFunc(edges, same) {
			return true
		}
	}
	return false
}

// wantList fails unless got holds exactly these numbers.
func wantList(t *testing.T, name string, got []int64, want ...int64) {
	t.Helper()
	if !slices.Equal(got, want) {
		t.Fatalf("%s: got %v, want %v", name, got, want)
	}
}

// wantSides fails unless SidesOf returns these sides, and true.
func wantSides(t *testing.T, name string, g impl.Graph, want ...int64) {
	t.Helper()
	got, is := impl.SidesOf(g)
	if !is {
		t.Fatalf("%s: not bipartite", name)
	}
	wantList(t, name, got, want...)
}

// wantNoSides fails unless SidesOf returns no sides, and false.
func wantNoSides(t *testing.T, name string, g impl.Graph) {
	t.Helper()
	if got, is := impl.SidesOf(g); is || len(got) != 0 {
		t.Fatalf("%s: got %v %v, want nil and false", name, got, is)
	}
}

func TestWalkExamples(t *testing.T) {
	g := house()
	wantList(t, "DistancesFrom", impl.DistancesFrom(g, 0), 0, 1, 2, 1, 2)
	wantList(t, "PathOf", impl.PathOf(g, 0, 4), 0, 3, 4)
	if got := impl.PartsOf(twoEdges()); !sameLists(got, [][]int64{{0, 3}, {1, 2}, {4}}) {
		t.Error("PartsOf", got)
	}
	if !impl.ConnectedIn(g, []int64{0, 1, 2}) || impl.ConnectedIn(g, []int64{0, 4}) {
		t.Error("ConnectedIn")
	}
	wantSides(t, "SidesOf of two edges", twoEdges(), 0, 0, 1, 1, 0)
	wantNoSides(t, "SidesOf of the house", g)
	if !impl.LoopOk(g, []int64{4, 3, 2}) || impl.LoopOk(g, []int64{0, 1, 2}) {
		t.Error("LoopOk")
	}
	wantList(t, "LeastLoop", impl.LeastLoop(g), 2, 3, 4)
	wantList(t, "OddLoop of the house", impl.OddLoop(g), 2, 3, 4)
	wantList(t, "OddLoop", impl.OddLoop(squareAndPentagon()), 0, 4, 5, 6, 7)
	wantList(t, "LeastLoop beside OddLoop", impl.LeastLoop(squareAndPentagon()), 0, 1, 2, 3)
}

// Promise 3.
func TestBipartiteExactlyWithoutOddLoop(t *testing.T) {
	for _, g := range walkGraphs() {
		sides, is := impl.SidesOf(g)
		loop := impl.OddLoop(g)
		if is != twoColourable(g) || is != (len(loop) == 0) {
			t.Fatal(g, sides, is, loop)
		}
		if !is {
			if len(sides) != 0 || !isLoop(g, loop) || !impl.LoopOk(g, loop) || len(loop)%2 == 0 {
				t.Fatal(g, sides, loop)
			}
			continue
		}
		if len(sides) != len(g.Next) {
			t.Fatal(g, sides)
		}
		for v, row := range g.Next {
			if sides[v] != 0 && sides[v] != 1 {
				t.Fatal(g, sides)
			}
			for _, u := range row {
				if sides[u] == sides[v] {
					t.Fatal(g, sides, u, v)
				}
			}
		}
		for _, part := range impl.PartsOf(g) {
			if sides[part[0]] != 0 {
				t.Fatal(g, sides, part)
			}
		}
	}
}

func TestPathsAreAsLongAsDistances(t *testing.T) {
	for _, g := range walkGraphs() {
		far := trueDistances(g)
		for u := range int64(len(g.Next)) {
			wantList(t, "DistancesFrom", impl.DistancesFrom(g, u), far[u]...)
			for v := range int64(len(g.Next)) {
				path := impl.PathOf(g, u, v)
				if far[u][v] < 0 {
					wantList(t, "PathOf, no path", path)
					continue
				}
				if !isPath(g, path) || path[0] != u || path[len(path)-1] != v || int64(len(path)-1) != far[u][v] {
					t.Fatal(g, u, v, path)
				}
			}
		}
	}
}

func TestPartsAreComponents(t *testing.T) {
	for _, g := range walkGraphs() {
		far := trueDistances(g)
		parts := impl.PartsOf(g)
		partOf := slices.Repeat([]int{-1}, len(g.Next))
		for i, part := range parts {
			if len(part) == 0 || !isSet(len(g.Next), part) || !impl.ConnectedIn(g, part) || i > 0 && parts[i-1][0] >= part[0] {
				t.Fatal(g, parts)
			}
			for _, v := range part {
				if partOf[v] >= 0 {
					t.Fatal(v, "is in two parts", g, parts)
				}
				partOf[v] = i
			}
		}
		for u := range g.Next {
			for v := range g.Next {
				if partOf[u] < 0 || (partOf[u] == partOf[v]) != (far[u][v] >= 0) || partOf[u] != partOf[v] && impl.EdgeIn(g, int64(u), int64(v)) {
					t.Fatal(g, parts, u, v)
				}
			}
		}
		if impl.ConnectedIn(g, upTo(len(g.Next))) != (len(parts) == 1) {
			t.Fatal("ConnectedIn of all vertices", g, parts)
		}
	}
}

func TestLoopExactlyWithMoreEdgesThanAForest(t *testing.T) {
	for _, g := range walkGraphs() {
		forest := int64(len(g.Next) - len(impl.PartsOf(g)))
		loop := impl.LeastLoop(g)
		if (len(loop) > 0) != (impl.ManyEdges(g) > forest) {
			t.Fatal(g, loop)
		}
		if len(loop) > 0 && (!isLoop(g, loop) || !impl.LoopOk(g, loop)) {
			t.Fatal(g, loop)
		}
		if odd := impl.OddLoop(g); len(odd) > 0 && len(odd) < len(loop) {
			t.Fatal(g, loop, odd)
		}
	}
}

func TestSmallestOfAllInSmallGraphs(t *testing.T) {
	list := []impl.Graph{}
	for n := 1; n <= 5; n++ {
		list = append(list, allGraphs(n)...)
	}
	for i, g := range allGraphs(6) {
		if i%17 == 0 {
			list = append(list, g)
		}
	}
	for _, g := range list {
		for u := range int64(len(g.Next)) {
			for v := range int64(len(g.Next)) {
				wantList(t, "PathOf", impl.PathOf(g, u, v), searchedPath(g, u, v)...)
			}
		}
		wantList(t, "LeastLoop", impl.LeastLoop(g), searchedLoop(g, 1)...)
		wantList(t, "OddLoop", impl.OddLoop(g), searchedLoop(g, 2)...)
	}
}

// In greater graphs the search is done only where something is known to be found soon.
func TestSmallestOfAllInGreaterGraphs(t *testing.T) {
	for _, g := range walkGraphs() {
		if len(g.Next) < 6 {
			continue
		}
		far := trueDistances(g)
		for u := range int64(len(g.Next)) {
			for v := range int64(len(g.Next)) {
				if far[u][v] < 0 || far[u][v] > 4 {
					continue
				}
				wantList(t, "PathOf", impl.PathOf(g, u, v), searchedPath(g, u, v)...)
			}
		}
		wantList(t, "LeastLoop", impl.LeastLoop(g), searchedLoop(g, 1)...)
		if !twoColourable(g) {
			wantList(t, "OddLoop", impl.OddLoop(g), searchedLoop(g, 2)...)
		}
	}
}

func TestSmallestPathGoesByTheFirstDifference(t *testing.T) {
	two := fromEdges(6, [2]int{0, 1}, [2]int{1, 4}, [2]int{4, 5}, [2]int{0, 2}, [2]int{2, 3}, [2]int{3, 5})
	wantList(t, "forward", impl.PathOf(two, 0, 5), 0, 1, 4, 5)
	wantList(t, "backward", impl.PathOf(two, 5, 0), 5, 3, 2, 0)
	short := fromEdges(5, [2]int{0, 1}, [2]int{1, 2}, [2]int{2, 3}, [2]int{0, 4}, [2]int{3, 4})
	wantList(t, "a shorter path precedes", impl.PathOf(short, 0, 3), 0, 4, 3)
	dead := fromEdges(5, [2]int{0, 1}, [2]int{0, 2}, [2]int{2, 4}, [2]int{0, 3}, [2]int{3, 4})
	wantList(t, "a smaller first step leads nowhere", impl.PathOf(dead, 0, 4), 0, 2, 4)
}

func TestSmallestLoopGoesByLengthFirst(t *testing.T) {
	late := fromEdges(7, [2]int{0, 1}, [2]int{1, 2}, [2]int{2, 3}, [2]int{0, 3}, [2]int{4, 5}, [2]int{5, 6}, [2]int{4, 6})
	wantList(t, "LeastLoop, triangle after square", impl.LeastLoop(late), 4, 5, 6)
	wantList(t, "OddLoop, triangle after square", impl.OddLoop(late), 4, 5, 6)
	five := fromEdges(8, [2]int{0, 1}, [2]int{1, 2}, [2]int{2, 3}, [2]int{3, 4}, [2]int{0, 4}, [2]int{5, 6}, [2]int{6, 7}, [2]int{5, 7})
	wantList(t, "LeastLoop, triangle after pentagon", impl.LeastLoop(five), 5, 6, 7)
	wantList(t, "OddLoop, triangle after pentagon", impl.OddLoop(five), 5, 6, 7)
	mixed := rows([]int64{2, 4}, []int64{3, 4}, []int64{0, 3}, []int64{1, 2}, []int64{0, 1})
	wantList(t, "LeastLoop, mixed pentagon", impl.LeastLoop(mixed), 0, 2, 3, 1, 4)
	wantList(t, "OddLoop, mixed pentagon", impl.OddLoop(mixed), 0, 2, 3, 1, 4)
	wantList(t, "LeastLoop, Petersen", impl.LeastLoop(petersenGraph()), 0, 1, 2, 3, 4)
	wantList(t, "OddLoop, Petersen", impl.OddLoop(petersenGraph()), 0, 1, 2, 3, 4)
	tail := fromEdges(5, [2]int{0, 1}, [2]int{1, 2}, [2]int{2, 3}, [2]int{2, 4}, [2]int{3, 4})
	wantList(t, "LeastLoop, a tail before it", impl.LeastLoop(tail), 2, 3, 4)
	wantList(t, "OddLoop, a tail before it", impl.OddLoop(tail), 2, 3, 4)
}

func TestSidesOfSeveralComponents(t *testing.T) {
	g := fromEdges(7, [2]int{1, 5}, [2]int{2, 4}, [2]int{4, 6}, [2]int{0, 6})
	wantSides(t, "SidesOf", g, 0, 0, 1, 0, 0, 1, 1)
	odd := fromEdges(7, [2]int{0, 1}, [2]int{4, 5}, [2]int{5, 6}, [2]int{4, 6})
	wantNoSides(t, "SidesOf, odd loop in the last component", odd)
}

func TestOneVertex(t *testing.T) {
	one := emptyGraph(1)
	wantList(t, "DistancesFrom", impl.DistancesFrom(one, 0), 0)
	wantList(t, "PathOf", impl.PathOf(one, 0, 0), 0)
	if got := impl.PartsOf(one); !sameLists(got, [][]int64{{0}}) {
		t.Error("PartsOf", got)
	}
	if !impl.ConnectedIn(one, []int64{0}) || impl.ConnectedIn(one, nil) || impl.ConnectedIn(one, []int64{1}) {
		t.Error("ConnectedIn")
	}
	wantSides(t, "SidesOf", one, 0)
	if impl.LoopOk(one, []int64{0}) || impl.LoopOk(one, []int64{0, 0, 0}) {
		t.Error("LoopOk")
	}
	wantList(t, "LeastLoop", impl.LeastLoop(one))
	wantList(t, "OddLoop", impl.OddLoop(one))
}

func TestPathToItselfAndToNowhere(t *testing.T) {
	for _, g := range walkGraphs() {
		for v := range int64(len(g.Next)) {
			wantList(t, "PathOf to itself", impl.PathOf(g, v, v), v)
		}
	}
	wantList(t, "DistancesFrom", impl.DistancesFrom(twoEdges(), 3), 1, -1, -1, 0, -1)
	wantList(t, "DistancesFrom", impl.DistancesFrom(twoEdges(), 4), -1, -1, -1, -1, 0)
	if got := impl.PathOf(twoEdges(), 0, 1); got != nil {
		t.Error("PathOf, not reached", got)
	}
}

func TestWalksOfMostVerticesComplete(t *testing.T) {
	g := fullGraph(impl.MaxV)
	all := upTo(impl.MaxV)
	for u := range int64(impl.MaxV) {
		far := slices.Repeat([]int64{1}, impl.MaxV)
		far[u] = 0
		wantList(t, "DistancesFrom", impl.DistancesFrom(g, u), far...)
		for v := range int64(impl.MaxV) {
			if u != v {
				wantList(t, "PathOf", impl.PathOf(g, u, v), u, v)
			}
		}
	}
	if got := impl.PartsOf(g); !sameLists(got, [][]int64{all}) {
		t.Error("PartsOf", got)
	}
	for _, set := range someSubsets(impl.MaxV) {
		if impl.ConnectedIn(g, set) != (len(set) > 0) {
			t.Error("ConnectedIn", set)
		}
	}
	wantNoSides(t, "SidesOf", g)
	wantList(t, "LeastLoop", impl.LeastLoop(g), 0, 1, 2)
	wantList(t, "OddLoop", impl.OddLoop(g), 0, 1, 2)
	if !impl.LoopOk(g, all) || impl.LoopOk(g, append(all, 16)) || impl.LoopOk(g, append(all, 0)) {
		t.Error("LoopOk")
	}
}

func TestWalksOfMostVerticesWithoutEdges(t *testing.T) {
	g := emptyGraph(impl.MaxV)
	singles := [][]int64{}
	for u := range int64(impl.MaxV) {
		singles = append(singles, []int64{u})
		far := slices.Repeat([]int64{-1}, impl.MaxV)
		far[u] = 0
		wantList(t, "DistancesFrom", impl.DistancesFrom(g, u), far...)
		for v := range int64(impl.MaxV) {
			if u != v {
				wantList(t, "PathOf", impl.PathOf(g, u, v))
			}
		}
	}
	if got := impl.PartsOf(g); !sameLists(got, singles) {
		t.Error("PartsOf", got)
	}
	for _, set := range someSubsets(impl.MaxV) {
		if impl.ConnectedIn(g, set) != (len(set) == 1) {
			t.Error("ConnectedIn", set)
		}
	}
	wantSides(t, "SidesOf", g, make([]int64, impl.MaxV)...)
	wantList(t, "LeastLoop", impl.LeastLoop(g))
	wantList(t, "OddLoop", impl.OddLoop(g))
	if impl.LoopOk(g, upTo(impl.MaxV)) || impl.LoopOk(g, []int64{0, 1, 2}) {
		t.Error("LoopOk")
	}
}

func TestWalksOfOneLoopThroughMostVertices(t *testing.T) {
	g := ringGraph(impl.MaxV, 1)
	wantList(t, "DistancesFrom", impl.DistancesFrom(g, 0), 0, 1, 2, 3, 4, 5, 6, 7, 8, 7, 6, 5, 4, 3, 2, 1)
	wantList(t, "PathOf, half round", impl.PathOf(g, 0, 8), 0, 1, 2, 3, 4, 5, 6, 7, 8)
	wantList(t, "PathOf, half round back", impl.PathOf(g, 8, 0), 8, 7, 6, 5, 4, 3, 2, 1, 0)
	wantList(t, "PathOf, over the end", impl.PathOf(g, 2, 13), 2, 1, 0, 15, 14, 13)
	wantSides(t, "SidesOf", g, 0, 1, 0, 1, 0, 1, 0, 1, 0, 1, 0, 1, 0, 1, 0, 1)
	wantList(t, "LeastLoop", impl.LeastLoop(g), upTo(impl.MaxV)...)
	wantList(t, "OddLoop", impl.OddLoop(g))
	steps := ringGraph(impl.MaxV, 5)
	wantList(t, "LeastLoop by steps", impl.LeastLoop(steps), 0, 5, 10, 15, 4, 9, 14, 3, 8, 13, 2, 7, 12, 1, 6, 11)
	if got := impl.PartsOf(steps); !sameLists(got, [][]int64{upTo(impl.MaxV)}) {
		t.Error("PartsOf", got)
	}
	less := impl.Graph{Next: append(ringGraph(impl.MaxV-1, 1).Next, nil)}
	wantNoSides(t, "SidesOf, 15 of 16", less)
	wantList(t, "OddLoop, 15 of 16", impl.OddLoop(less), upTo(impl.MaxV-1)...)
	wantList(t, "LeastLoop, 15 of 16", impl.LeastLoop(less), upTo(impl.MaxV-1)...)
}

// These graphs have very many paths: a search of all of them would not return.
func TestLoopsAmongVeryManyPaths(t *testing.T) {
	g := twoSidedGraph(impl.MaxV)
	wantSides(t, "two sides", g, slices.Concat(make([]int64, 8), slices.Repeat([]int64{1}, 8))...)
	wantList(t, "LeastLoop, two sides", impl.LeastLoop(g), 0, 8, 1, 9)
	wantList(t, "OddLoop, two sides", impl.OddLoop(g))
	more := fromPairs(impl.MaxV, func(u, v int) bool { return near(g, u, v) || u == 6 && v == 7 })
	wantNoSides(t, "two sides and an edge", more)
	wantList(t, "OddLoop, two sides and an edge", impl.OddLoop(more), 6, 7, 8)
	wantSides(t, "cube", cubeGraph(), 0, 1, 1, 0, 1, 0, 0, 1, 1, 0, 0, 1, 0, 1, 1, 0)
	wantList(t, "LeastLoop, cube", impl.LeastLoop(cubeGraph()), 0, 1, 3, 2)
	wantList(t, "OddLoop, cube", impl.OddLoop(cubeGraph()))
	long := fromPairs(impl.MaxV, func(u, v int) bool {
		return u < 4 && v >= 4 && v < 9 || u >= 9 && (v-u == 1 || v-u == 6)
	})
	wantList(t, "LeastLoop, two sides and seven", impl.LeastLoop(long), 0, 4, 1, 5)
	wantList(t, "OddLoop, two sides and seven", impl.OddLoop(long), 9, 10, 11, 12, 13, 14, 15)
}

// connected says whether the set, which is not empty, induces a connected subgraph.
func connected(g impl.Graph, set []int64) bool {
	for _, row := range trueDistances(pickedGraph(g, set)) {
		if slices.Contains(row, -1) {
			return false
		}
	}
	return true
}

func TestConnectedInEverySet(t *testing.T) {
	for _, g := range walkGraphs() {
		n := len(g.Next)
		if n > 7 {
			continue
		}
		for code := range 1 << n {
			set := subsetOf(n, code)
			if want := len(set) > 0 && connected(g, set); impl.ConnectedIn(g, set) != want {
				t.Fatal(g, set, want)
			}
		}
	}
	for _, g := range []impl.Graph{ringGraph(16, 1), ringGraph(16, 7), cubeGraph(), twoSidedGraph(16)} {
		for _, set := range someSubsets(16) {
			if want := len(set) > 0 && connected(g, set); impl.ConnectedIn(g, set) != want {
				t.Fatal(g, set, want)
			}
		}
	}
}

func TestConnectedInOtherLists(t *testing.T) {
	lists := [][]int64{nil, {}, {1, 0}, {2, 1, 0}, {0, 0}, {0, 1, 1}, {4, 4}, {0, 3, 2}, {5}, {3, 4, 5}, {-1}, {-1, 0}, {0, 1, 2, 3, 4, 5}, {0, 1, 2, 3, 4, 4}}
	for _, far := range farVertices {
		lists = append(lists, []int64{far}, []int64{0, far}, []int64{far, 0}, []int64{0, 1, 2, 3, 4, far})
	}
	for _, g := range []impl.Graph{house(), fullGraph(5)} {
		for _, s := range lists {
			if impl.ConnectedIn(g, s) {
				t.Error(s)
			}
		}
		for v := range int64(5) {
			if !impl.ConnectedIn(g, []int64{v}) {
				t.Error("a single vertex", v)
			}
		}
	}
	path := fromPairs(4, func(u, v int) bool { return v-u == 1 })
	for length := range 5 {
		for _, s := range allSlices(length, -1, 4) {
			want := length > 0 && isSet(4, s) && connected(path, s)
			if impl.ConnectedIn(path, s) != want {
				t.Fatal(s, want)
			}
		}
	}
}

func TestLoopOkOfEveryList(t *testing.T) {
	for n := 1; n <= 4; n++ {
		lists := [][]int64{}
		for length := range n + 2 {
			lists = append(lists, allSlices(length, -1, int64(n))...)
		}
		for _, g := range allGraphs(n) {
			for _, s := range lists {
				if want := isLoop(g, s); impl.LoopOk(g, s) != want {
					t.Fatal(g, s, want)
				}
			}
		}
	}
}

func TestLoopsFromAnyVertexInEitherDirection(t *testing.T) {
	for _, g := range walkGraphs() {
		for _, loop := range [][]int64{impl.LeastLoop(g), impl.OddLoop(g)} {
			back := slices.Clone(loop)
			slices.Reverse(back)
			for i := range loop {
				if !impl.LoopOk(g, slices.Concat(loop[i:], loop[:i])) || !impl.LoopOk(g, slices.Concat(back[i:], back[:i])) {
					t.Fatal(g, loop, i)
				}
			}
		}
	}
}

func TestListsThatAreNoLoops(t *testing.T) {
	lists := [][]int64{
		nil, {}, {2}, {2, 3}, {2, 2}, {2, 3, 2}, {2, 3, 4, 2}, {2, 3, 4, 2, 3, 4}, {2, 2, 3, 4}, {0, 1, 2}, {0, 1, 2, 4}, {4, 2, 1, 0},
		{0, 1, 2, 3, 4}, {2, 3, 5}, {-1, 3, 2}, {0, 2, 3}, {0, 2, 1, 3}, {0, 1, 2, 3, 0}, {0, 1, 2, 4, 3, 2}, {0, 1, 0, 3},
	}
	for _, far := range farVertices {
		lists = append(lists, []int64{far, 3, 4}, []int64{2, far, 4}, []int64{2, 3, far}, []int64{2, 3, 4, far}, []int64{far, far, far})
	}
	for _, s := range lists {
		if impl.LoopOk(house(), s) {
			t.Error(s)
		}
	}
	for _, s := range [][]int64{{2, 3, 4}, {3, 2, 4}, {0, 1, 2, 3}, {0, 1, 2, 4, 3}, {4, 2, 1, 0, 3}} {
		if !impl.LoopOk(house(), s) {
			t.Error("a loop", s)
		}
	}
	if impl.LoopOk(house(), slices.Repeat([]int64{2, 3, 4}, 100000)) {
		t.Error("a very long list")
	}
}

// walk is a call of one function of the chapter; its lists are all that the function returns.
type walk struct {
	name string
	call func(impl.Graph) [][]int64
}

// walks returns calls of every function of the chapter that returns lists, with vertices of a
// graph of n vertices.
func walks(n int) []walk {
	list := []walk{
		{"PartsOf", impl.PartsOf},
		{"SidesOf", func(g impl.Graph) [][]int64 { sides, _ := impl.SidesOf(g); return [][]int64{sides} }},
		{"LeastLoop", func(g impl.Graph) [][]int64 { return [][]int64{impl.LeastLoop(g)} }},
		{"OddLoop", func(g impl.Graph) [][]int64 { return [][]int64{impl.OddLoop(g)} }},
	}
	last := int64(n - 1)
	for _, p := range [][2]int64{{0, 0}, {0, last}, {last, 0}, {last / 2, last}, {0, 1}} {
		list = append(list,
			walk{"DistancesFrom", func(g impl.Graph) [][]int64 { return [][]int64{impl.DistancesFrom(g, p[0])} }},
			walk{"PathOf", func(g impl.Graph) [][]int64 { return [][]int64{impl.PathOf(g, p[0], p[1])} }},
		)
	}
	return list
}

func TestWalksOfForeignVertices(t *testing.T) {
	for _, g := range []impl.Graph{emptyGraph(1), house(), emptyGraph(impl.MaxV), fullGraph(impl.MaxV)} {
		n := int64(len(g.Next))
		foreign := append([]int64{n, n + 1}, farVertices...)
		for _, u := range foreign {
			wantList(t, "DistancesFrom", impl.DistancesFrom(g, u))
			for _, v := range append(upTo(len(g.Next)), foreign...) {
				wantList(t, "PathOf", impl.PathOf(g, u, v))
				wantList(t, "PathOf", impl.PathOf(g, v, u))
			}
		}
	}
}

// Promises 3 and 35: what is no graph has no paths, parts, sides or loops.
func TestWalksOfInvalidGraphs(t *testing.T) {
	for _, bad := range badGraphs() {
		if got := impl.PartsOf(bad.g); len(got) != 0 {
			t.Error(bad.name, "PartsOf", got)
		}
		wantNoSides(t, bad.name, bad.g)
		wantList(t, bad.name+", LeastLoop", impl.LeastLoop(bad.g))
		wantList(t, bad.name+", OddLoop", impl.OddLoop(bad.g))
		vertices := append(upTo(impl.MaxV+2), farVertices...)
		for _, u := range vertices {
			wantList(t, bad.name+", DistancesFrom", impl.DistancesFrom(bad.g, u))
			if impl.ConnectedIn(bad.g, []int64{u}) {
				t.Error(bad.name, "ConnectedIn", u)
			}
			for _, v := range vertices {
				wantList(t, bad.name+", PathOf", impl.PathOf(bad.g, u, v))
			}
		}
		for _, s := range [][]int64{nil, {0, 1}, {0, 1, 2}, {2, 3, 4}, {0, 1, 2, 3}, {0, 1, 2, 4, 3}, {0, 0, 0}, upTo(16), upTo(17)} {
			if impl.LoopOk(bad.g, s) || impl.ConnectedIn(bad.g, s) {
				t.Error(bad.name, "LoopOk or ConnectedIn", s)
			}
		}
	}
}

// Promise 35, for invalid graphs too: they are arguments like others.
func TestWalkedGraphsStay(t *testing.T) {
	all := walkGraphs()
	for _, bad := range badGraphs() {
		all = append(all, bad.g)
	}
	for _, g := range all {
		p, store := packedGraph(g)
		for _, w := range walks(len(g.Next)) {
			w.call(p)
			intact(t, w.name, p, store, g)
		}
		impl.ConnectedIn(p, []int64{0, 1})
		impl.LoopOk(p, []int64{2, 3, 4})
		intact(t, "ConnectedIn or LoopOk", p, store, g)
	}
}

func TestListsOfWalksStay(t *testing.T) {
	lists := [][]int64{{}, {0}, {0, 4}, {4, 0}, {2, 3, 4}, {4, 3, 2}, {0, 1, 2, 3}, {0, 1, 2}, {2, 3, 3}, {0, 1, 2, 3, 4}, {3, 4, 5}}
	args, store := packed(lists)
	_, want := packed(lists)
	for _, s := range args {
		impl.ConnectedIn(house(), s)
		impl.LoopOk(house(), s)
	}
	if !sameLists(args, lists) || !slices.Equal(store, want) {
		t.Error("ConnectedIn or LoopOk changed its list", store)
	}
}

// Promise 35: a result keeps its value when the argument is overwritten, and the other way round;
// its slices are apart.
func TestWalkResultsAreNewMemory(t *testing.T) {
	for _, g := range walkGraphs() {
		for _, w := range walks(len(g.Next)) {
			p, store := packedGraph(g)
			got := w.call(p)
			want := copied(got)
			apart(t, w.name, got)
			for _, list := range got {
				whole := list[:cap(list)]
				for i := range whole {
					whole[i] = guard
				}
			}
			intact(t, w.name, p, store, g)
			got = w.call(p)
			for i := range store {
				store[i] = guard
			}
			clear(p.Next[:cap(p.Next)])
			if !sameLists(got, want) {
				t.Fatal(w.name, "shares memory with its argument", g)
			}
		}
	}
}

func TestWalkResultsOfTwoCallsAreApart(t *testing.T) {
	for _, g := range []impl.Graph{house(), twoEdges(), squareAndPentagon(), fullGraph(impl.MaxV)} {
		for _, w := range walks(len(g.Next)) {
			apart(t, w.name, append(w.call(g), w.call(g)...))
		}
	}
}
