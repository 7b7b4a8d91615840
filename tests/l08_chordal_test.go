package tests

import (
	"fmt"
	"math"
	"math/bits"
	"slices"
	"testing"

	"loop.example/g00871/impl"
)

// isClique says whether the vertices of set are pairwise neighbours.
func isClique(g impl.Graph, set []int64) bool {
	for i, u := range set {
		for _, v := range set[:i] {
			if !near(g, int(u), int(v)) {
				return false
			}
		}
	}
	return true
}

// hasChord says whether two vertices of the loop that are not consecutive are neighbours.
func hasChord(g impl.Graph, loop []int64) bool {
	for i, u := range loop {
		for j, v := range loop[:i] {
			if i-j != 1 && i-j != len(loop)-1 && near(g, int(u), int(v)) {
				return true
			}
		}
	}
	return false
}

// isChordless says whether s is a loop of four or more vertices of g without a chord.
func isChordless(g impl.Graph, s []int64) bool {
	return len(s) >= 4 && isLoop(g, s) && !hasChord(g, s)
}

// searchedChordless tries all paths of four vertices, then of five, and so on.
func searchedChordless(g impl.Graph) []int64 {
	for length := 4; length <= len(g.Next); length++ {
		found := firstPath(g, nil, length, func(s []int64) bool { return isChordless(g, s) })
		if found != nil {
			return found
		}
	}
	return nil
}

// codesOf returns the neighbours of each vertex as a number with their bits.
func codesOf(g impl.Graph) []int {
	codes := make([]int, len(g.Next))
	for v, row := range g.Next {
		for _, u := range row {
			codes[v] |= 1 << u
		}
	}
	return codes
}

// roundOf goes through the vertices of code, from the smallest one over its smaller neighbour, if
// each has two neighbours among them; it returns nil if it does not come through all of them.
func roundOf(codes []int, code int) []int64 {
	round := []int64{}
	left := code
	for at := bits.TrailingZeros(uint(code)); ; {
		if bits.OnesCount(uint(codes[at]&code)) != 2 {
			return nil
		}
		round = append(round, int64(at))
		left &^= 1 << at
		next := codes[at] & left
		if next == 0 {
			break
		}
		at = bits.TrailingZeros(uint(next))
	}
	if left != 0 {
		return nil
	}
	return round
}

// trueChordless returns the smallest of the loops without a chord that some set of four or more
// vertices induces.
func trueChordless(g impl.Graph) []int64 {
	codes := codesOf(g)
	var best []int64
	for code := range 1 << len(codes) {
		size := bits.OnesCount(uint(code))
		if size < 4 || best != nil && size > len(best) {
			continue
		}
		round := roundOf(codes, code)
		if round != nil && (best == nil || size < len(best) || slices.Compare(round, best) < 0) {
			best = round
		}
	}
	return best
}

// trueCliques returns, in lexicographic order, the sets of pairwise neighbours to which no vertex
// can be added.
func trueCliques(g impl.Graph) [][]int64 {
	codes := codesOf(g)
	list := [][]int64{}
	for code := 1; code < 1<<len(codes); code++ {
		within, common := true, 1<<len(codes)-1
		for v, c := range codes {
			if code>>v&1 == 1 {
				within = within && code&^c == 1<<v
				common &= c
			}
		}
		if within && common == 0 {
			list = append(list, subsetOf(len(codes), code))
		}
	}
	slices.SortFunc(list, slices.Compare)
	return list
}

// trueSimplicial returns the vertices whose neighbours are pairwise neighbours.
func trueSimplicial(g impl.Graph) []int64 {
	out := []int64{}
	for v, row := range g.Next {
		if isClique(g, row) {
			out = append(out, int64(v))
		}
	}
	return out
}

// isPerfect says whether no edge arises when the vertices are eliminated in this order.
func isPerfect(g impl.Graph, order []int64) bool {
	return len(order) == len(g.Next) && manyEnds(trueLater(g, order)) == manyEnds(g.Next)/2
}

// truePerfect takes away the smallest vertex whose remaining neighbours are pairwise neighbours
// until none is left, or returns nil if there is no such vertex.
func truePerfect(g impl.Graph) []int64 {
	m, left, order := tableOf(g), upTo(len(g.Next)), []int64{}
	for len(left) > 0 {
		at := slices.IndexFunc(left, func(v int64) bool { return len(m.missing(left, v)) == 0 })
		if at < 0 {
			return nil
		}
		order = append(order, left[at])
		left = slices.Delete(left, at, at+1)
	}
	return order
}

// pathPower returns n vertices in a row; those that are at most k places apart are neighbours.
func pathPower(n, k int) impl.Graph {
	return fromPairs(n, func(u, v int) bool { return v-u <= k })
}

// chordalGraphs returns graphs that are chordal by their construction, of every size.
func chordalGraphs() []impl.Graph {
	list := []impl.Graph{}
	for n := 1; n <= impl.MaxV; n++ {
		list = append(list, emptyGraph(n), fullGraph(n), starGraph(n, 0), starGraph(n, n-1), starGraph(n, n/2))
		for k := 1; k <= 5; k++ {
			list = append(list, pathPower(n, k))
			// The first k vertices are a clique, the others are neighbours of some of them only.
			list = append(list, fromPairs(n, func(u, v int) bool { return v < k || u < k && (u+v)%3 != 0 }))
			list = append(list, fromPairs(n, func(u, v int) bool { return u%k == v%k }))
			list = append(list, fromPairs(n, func(u, v int) bool { return (v-1)/k == u }))
		}
		filled := joinedFill(ringGraph(max(n, 3), 1), upTo(max(n, 3)))
		list = append(list, filled)
	}
	return list
}

// loopedGraphs returns graphs that are not chordal by their construction.
func loopedGraphs() []impl.Graph {
	list := []impl.Graph{house(), cubeGraph(), petersenGraph(), squareAndPentagon(), crossed(16), cubeOf3(), ringsOf(3, 4), ringsOf(4, 3, 5)}
	for n := 4; n <= impl.MaxV; n++ {
		list = append(list, ringGraph(n, 1), twoSidedGraph(n), manyParted(n, n/2))
	}
	return list
}

// everyChordal returns every graph of up to six vertices and some of every size up to MaxV.
func everyChordal() []impl.Graph {
	return slices.Concat(greedyGraphs(), chordalGraphs(), loopedGraphs())
}

// listsOf returns, for each number of vertices up to six, all lists of distinct vertices, shorter
// ones first.
func listsOf() [][][]int64 {
	out := make([][][]int64, 7)
	for n := range out {
		for length := range n + 1 {
			out[n] = append(out[n], allLists(n, length)...)
		}
	}
	return out
}

// searchGraphs returns every graph of up to five vertices and a choice of those of six.
func searchGraphs() []impl.Graph {
	list := []impl.Graph{}
	for n := 1; n <= 5; n++ {
		list = append(list, allGraphs(n)...)
	}
	for i, g := range allGraphs(6) {
		if i%23 == 0 || len(g.Next[0]) == 2 && i%7 == 0 {
			list = append(list, g)
		}
	}
	return list
}

func TestChordalExamples(t *testing.T) {
	g := house()
	if impl.ChordalIn(g) {
		t.Error("ChordalIn")
	}
	order, is := impl.PerfectOrder(g)
	wantMissing(t, "PerfectOrder", order, is)
	f := fromPairs(5, func(u, v int) bool { return near(g, u, v) || u == 0 && v == 2 })
	order, is = impl.PerfectOrder(f)
	wantFound(t, "PerfectOrder", order, is, 1, 0, 2, 3, 4)
	if !impl.ChordlessOk(g, []int64{2, 1, 0, 3}) || impl.ChordlessOk(g, []int64{0, 1, 2, 4, 3}) {
		t.Error("ChordlessOk")
	}
	loop, not := impl.ChordlessLoop(g)
	wantFound(t, "ChordlessLoop", loop, not, 0, 1, 2, 3)
	loop, not = impl.ChordlessLoop(f)
	wantMissing(t, "ChordlessLoop", loop, not)
	wantList(t, "SimplicialIn", impl.SimplicialIn(g), 4)
	if !impl.CliqueOk(g, []int64{2, 3, 4}) {
		t.Error("CliqueOk")
	}
	if got := impl.CliquesOf(g); !sameLists(got, [][]int64{{0, 1}, {0, 3}, {1, 2}, {2, 3, 4}}) {
		t.Error("CliquesOf", got)
	}
}

// Promise 8.
func TestPerfectOrderOrChordlessLoop(t *testing.T) {
	for _, g := range everyChordal() {
		order, is := impl.PerfectOrder(g)
		loop, not := impl.ChordlessLoop(g)
		if is == not || is != impl.ChordalIn(g) {
			t.Fatal("promise 8", g.Next, order, is, loop, not)
		}
		if is && (len(loop) != 0 || !isOrder(len(g.Next), order) || !isPerfect(g, order) || !impl.PerfectIn(g, order)) {
			t.Fatal("promise 8", g.Next, order, loop)
		}
		if not && (len(order) != 0 || !isChordless(g, loop) || !impl.ChordlessOk(g, loop)) {
			t.Fatal("promise 8", g.Next, order, loop)
		}
	}
}

// Promise 8, without the functions that search: no graph has an order for which PerfectIn holds
// and a loop for which ChordlessOk holds, and none has neither.
func TestOnePerfectOrderOrOneChordlessLoop(t *testing.T) {
	lists := listsOf()
	for _, g := range searchGraphs() {
		perfect := slices.ContainsFunc(lists[len(g.Next)], func(s []int64) bool { return impl.PerfectIn(g, s) })
		looped := slices.ContainsFunc(lists[len(g.Next)], func(s []int64) bool { return impl.ChordlessOk(g, s) })
		if perfect == looped || perfect != impl.ChordalIn(g) {
			t.Fatal("promise 8", g.Next, perfect, looped)
		}
	}
}

func TestPerfectOrderIsTheSmallestOfAllOrders(t *testing.T) {
	lists := listsOf()
	for _, g := range searchGraphs() {
		var want []int64
		at := slices.IndexFunc(lists[len(g.Next)], func(s []int64) bool { return impl.PerfectIn(g, s) })
		if at >= 0 {
			want = lists[len(g.Next)][at]
		}
		order, is := impl.PerfectOrder(g)
		wantSearched(t, fmt.Sprint("PerfectOrder ", g.Next), order, is, want)
	}
}

func TestPerfectOrderVertexByVertex(t *testing.T) {
	for _, g := range everyChordal() {
		order, is := impl.PerfectOrder(g)
		wantSearched(t, fmt.Sprint("PerfectOrder ", g.Next), order, is, truePerfect(g))
	}
}

func TestChordlessLoopIsTheSmallestOfAllPaths(t *testing.T) {
	for _, g := range searchGraphs() {
		want := searchedChordless(g)
		loop, not := impl.ChordlessLoop(g)
		wantSearched(t, fmt.Sprint("ChordlessLoop ", g.Next), loop, not, want)
		if impl.ChordalIn(g) != (want == nil) {
			t.Fatal("ChordalIn", g.Next, want)
		}
	}
}

func TestChordlessLoopIsTheSmallestOfAllSets(t *testing.T) {
	for _, g := range everyChordal() {
		want := trueChordless(g)
		loop, not := impl.ChordlessLoop(g)
		wantSearched(t, fmt.Sprint("ChordlessLoop ", g.Next), loop, not, want)
		if impl.ChordalIn(g) != (want == nil) {
			t.Fatal("ChordalIn", g.Next, want)
		}
	}
}

func TestConstructedChordalGraphs(t *testing.T) {
	for _, g := range chordalGraphs() {
		if order, is := impl.PerfectOrder(g); !is || !impl.ChordalIn(g) || !isPerfect(g, order) {
			t.Fatal(g.Next, order, is)
		}
	}
	for _, g := range loopedGraphs() {
		if loop, not := impl.ChordlessLoop(g); !not || impl.ChordalIn(g) || !isChordless(g, loop) {
			t.Fatal(g.Next, loop, not)
		}
	}
}

// A chordless loop whose renaming starts elsewhere must be found in its smallest form.
func TestRenamedChordlessLoops(t *testing.T) {
	for _, g := range []impl.Graph{ringGraph(6, 1), ringGraph(7, 1), house(), squareAndPentagon(), ringsOf(4, 4), ringsOf(5, 4), ringsOf(6, 3)} {
		for _, order := range someOrders(len(g.Next)) {
			h := pickedGraph(g, order)
			loop, not := impl.ChordlessLoop(h)
			wantSearched(t, fmt.Sprint("ChordlessLoop ", h.Next), loop, not, searchedChordless(h))
		}
	}
}

func TestSimplicialAndCliquesOfAllSets(t *testing.T) {
	for _, g := range slices.Concat(walkGraphs(), searchGraphs()) {
		n := len(g.Next)
		if n > 7 {
			continue
		}
		want := [][]int64{}
		for code := 1; code < 1<<n; code++ {
			set := subsetOf(n, code)
			wider := func(v int64) bool {
				more := append(slices.Clone(set), v)
				slices.Sort(more)
				return impl.CliqueOk(g, more)
			}
			if impl.CliqueOk(g, set) && !slices.ContainsFunc(upTo(n), wider) {
				want = append(want, set)
			}
		}
		slices.SortFunc(want, slices.Compare)
		if got := impl.CliquesOf(g); !sameLists(got, want) {
			t.Fatal("CliquesOf", g.Next, got, want)
		}
		simplicial := []int64{}
		for v := range n {
			if impl.CliqueOk(g, g.Next[v]) {
				simplicial = append(simplicial, int64(v))
			}
		}
		wantList(t, fmt.Sprint("SimplicialIn ", g.Next), impl.SimplicialIn(g), simplicial...)
	}
}

func TestSimplicialAndCliquesOfEveryGraph(t *testing.T) {
	for _, g := range everyChordal() {
		if got, want := impl.CliquesOf(g), trueCliques(g); !sameLists(got, want) {
			t.Fatal("CliquesOf", g.Next, got, want)
		}
		wantList(t, fmt.Sprint("SimplicialIn ", g.Next), impl.SimplicialIn(g), trueSimplicial(g)...)
	}
}

// A vertex is simplicial exactly if it is in one of these cliques only, and every edge is in one.
func TestCliquesAreOrderedAndCoverTheGraph(t *testing.T) {
	for _, g := range everyChordal() {
		cliques := impl.CliquesOf(g)
		many := make([]int, len(g.Next))
		for i, c := range cliques {
			if !isSet(len(g.Next), c) || !isClique(g, c) || !impl.CliqueOk(g, c) || i > 0 && slices.Compare(cliques[i-1], c) >= 0 {
				t.Fatal(g.Next, cliques)
			}
			for _, v := range c {
				many[v]++
			}
		}
		for v := range many {
			if many[v] == 0 || (many[v] == 1) != slices.Contains(impl.SimplicialIn(g), int64(v)) {
				t.Fatal(g.Next, cliques, v)
			}
		}
		for _, e := range impl.EdgesOf(g) {
			if !slices.ContainsFunc(cliques, func(c []int64) bool { return slices.Contains(c, e[0]) && slices.Contains(c, e[1]) }) {
				t.Fatal(g.Next, cliques, e)
			}
		}
		if impl.ChordalIn(g) && len(cliques) > len(g.Next) {
			t.Fatal("a chordal graph has no more cliques than vertices", g.Next, cliques)
		}
	}
}

// The smaller first step, the longer loop, and the smaller last vertex lead astray here.
func TestSmallestChordlessLoopGoesByLengthAndFirstDifference(t *testing.T) {
	late := ringsOf(5, 4)
	loop, not := impl.ChordlessLoop(late)
	wantFound(t, "square after pentagon", loop, not, 5, 6, 7, 8)
	loop, not = impl.ChordlessLoop(squareAndPentagon())
	wantFound(t, "square before pentagon", loop, not, 0, 1, 2, 3)
	last := fromEdges(6, [2]int{0, 1}, [2]int{0, 2}, [2]int{0, 3}, [2]int{1, 4}, [2]int{3, 4}, [2]int{1, 5}, [2]int{2, 5})
	loop, not = impl.ChordlessLoop(last)
	wantFound(t, "greater last vertex", loop, not, 0, 1, 4, 3)
	step := fromEdges(7, [2]int{0, 1}, [2]int{1, 4}, [2]int{4, 5}, [2]int{0, 5}, [2]int{0, 2}, [2]int{2, 6}, [2]int{0, 3}, [2]int{3, 6}, [2]int{0, 4})
	loop, not = impl.ChordlessLoop(step)
	wantFound(t, "the smaller first step has a chord", loop, not, 0, 2, 6, 3)
	short := fromEdges(8, [2]int{0, 1}, [2]int{1, 2}, [2]int{2, 3}, [2]int{3, 4}, [2]int{0, 4}, [2]int{0, 5}, [2]int{5, 6}, [2]int{6, 7}, [2]int{0, 7})
	loop, not = impl.ChordlessLoop(short)
	wantFound(t, "a greater first step is shorter", loop, not, 0, 5, 6, 7)
	triangles := ringsOf(3, 3, 3)
	loop, not = impl.ChordlessLoop(triangles)
	wantMissing(t, "triangles", loop, not)
	loop, not = impl.ChordlessLoop(fullGraph(4))
	wantMissing(t, "a square with both chords", loop, not)
	loop, not = impl.ChordlessLoop(fromEdges(4, [2]int{0, 1}, [2]int{1, 2}, [2]int{2, 3}, [2]int{0, 3}, [2]int{0, 2}))
	wantMissing(t, "a square with one chord", loop, not)
}

// The smallest vertex may become simplicial only later.
func TestSmallestPerfectOrderGoesByTheRemainingVertices(t *testing.T) {
	path := fromEdges(4, [2]int{0, 1}, [2]int{0, 2}, [2]int{1, 3})
	order, is := impl.PerfectOrder(path)
	wantFound(t, "a path", order, is, 2, 0, 1, 3)
	star := starGraph(5, 0)
	order, is = impl.PerfectOrder(star)
	wantFound(t, "a star", order, is, 1, 2, 3, 0, 4)
	order, is = impl.PerfectOrder(ringsOf(3, 4))
	wantMissing(t, "a triangle beside a square", order, is)
}

func TestChordalOfOneVertex(t *testing.T) {
	g := emptyGraph(1)
	if !impl.ChordalIn(g) || !impl.CliqueOk(g, []int64{0}) || !impl.CliqueOk(g, nil) || impl.ChordlessOk(g, []int64{0}) || impl.ChordlessOk(g, nil) {
		t.Error("ChordalIn, CliqueOk or ChordlessOk")
	}
	order, is := impl.PerfectOrder(g)
	wantFound(t, "PerfectOrder", order, is, 0)
	loop, not := impl.ChordlessLoop(g)
	wantMissing(t, "ChordlessLoop", loop, not)
	wantList(t, "SimplicialIn", impl.SimplicialIn(g), 0)
	if got := impl.CliquesOf(g); !sameLists(got, [][]int64{{0}}) {
		t.Error("CliquesOf", got)
	}
}

func TestChordalWithoutEdgesAndComplete(t *testing.T) {
	for n := 1; n <= impl.MaxV; n++ {
		all := upTo(n)
		singles := [][]int64{}
		for v := range int64(n) {
			singles = append(singles, []int64{v})
		}
		for _, c := range []struct {
			g       impl.Graph
			cliques [][]int64
		}{{emptyGraph(n), singles}, {fullGraph(n), [][]int64{all}}} {
			order, is := impl.PerfectOrder(c.g)
			wantFound(t, "PerfectOrder", order, is, all...)
			loop, not := impl.ChordlessLoop(c.g)
			wantMissing(t, "ChordlessLoop", loop, not)
			wantList(t, "SimplicialIn", impl.SimplicialIn(c.g), all...)
			if got := impl.CliquesOf(c.g); !impl.ChordalIn(c.g) || !sameLists(got, c.cliques) {
				t.Error("ChordalIn or CliquesOf", n, got)
			}
			if impl.CliqueOk(c.g, all) != (len(c.cliques) == 1) || impl.ChordlessOk(c.g, all) {
				t.Error("CliqueOk or ChordlessOk", n)
			}
		}
	}
}

func TestChordalOfRings(t *testing.T) {
	for n := 4; n <= impl.MaxV; n++ {
		g := ringGraph(n, 1)
		loop, not := impl.ChordlessLoop(g)
		wantFound(t, "ChordlessLoop", loop, not, upTo(n)...)
		order, is := impl.PerfectOrder(g)
		wantMissing(t, "PerfectOrder", order, is)
		wantList(t, "SimplicialIn", impl.SimplicialIn(g))
		want := [][]int64{{0, 1}, {0, int64(n - 1)}}
		for v := int64(1); v < int64(n-1); v++ {
			want = append(want, []int64{v, v + 1})
		}
		if got := impl.CliquesOf(g); impl.ChordalIn(g) || !sameLists(got, want) {
			t.Error("ChordalIn or CliquesOf", n, got)
		}
		// One chord leaves a shorter loop on at least one side, unless the loop is a square.
		h := fromPairs(n, func(u, v int) bool { return near(g, u, v) || u == 0 && v == 2 })
		if impl.ChordlessOk(h, upTo(n)) || impl.ChordalIn(h) != (n == 4) {
			t.Error("one chord", n)
		}
		if rest := append([]int64{0}, upTo(n)[2:]...); impl.ChordlessOk(h, rest) != (n > 4) {
			t.Error("one chord, the rest", n)
		}
	}
	triangle := ringGraph(3, 1)
	if impl.ChordlessOk(triangle, []int64{0, 1, 2}) || !impl.ChordalIn(triangle) {
		t.Error("a triangle")
	}
}

func TestChordalOfMostVertices(t *testing.T) {
	for _, c := range []struct {
		name string
		g    impl.Graph
		loop []int64
		many int
	}{
		{"two sides", twoSidedGraph(impl.MaxV), []int64{0, 8, 1, 9}, 64},
		{"cube", cubeGraph(), []int64{0, 1, 3, 2}, 32},
		{"eight pairs", manyParted(impl.MaxV, 8), []int64{0, 1, 8, 9}, 256},
		{"ring by steps", ringGraph(impl.MaxV, 5), []int64{0, 5, 10, 15, 4, 9, 14, 3, 8, 13, 2, 7, 12, 1, 6, 11}, 16},
		{"ring of 15 and one vertex", impl.Graph{Next: append(ringGraph(impl.MaxV-1, 1).Next, nil)}, upTo(impl.MaxV - 1), 16},
		{"row", pathPower(impl.MaxV, 3), nil, 13},
		{"row of nearly all", pathPower(impl.MaxV, 14), nil, 2},
		{"star", starGraph(impl.MaxV, 7), nil, 15},
	} {
		loop, not := impl.ChordlessLoop(c.g)
		wantSearched(t, c.name, loop, not, c.loop)
		if got := impl.CliquesOf(c.g); len(got) != c.many || impl.ChordalIn(c.g) == not {
			t.Error(c.name, len(got), "cliques, want", c.many)
		}
	}
}

// No graph of 16 vertices has more cliques than this one: a vertex of each group is chosen.
func TestMostCliques(t *testing.T) {
	group := func(v int) int { return min(v/3, 4) }
	g := fromPairs(impl.MaxV, func(u, v int) bool { return group(u) != group(v) })
	want := [][]int64{}
	for _, s := range allSlices(4, 0, 2) {
		for last := int64(12); last < impl.MaxV; last++ {
			want = append(want, []int64{s[0], 3 + s[1], 6 + s[2], 9 + s[3], last})
		}
	}
	if got := impl.CliquesOf(g); len(got) != 324 || !sameLists(got, want) {
		t.Error(len(got), "cliques")
	}
}

func TestChordlessOkOfEveryList(t *testing.T) {
	for n := 1; n <= 4; n++ {
		lists := [][]int64{}
		for length := range n + 2 {
			lists = append(lists, allSlices(length, -1, int64(n))...)
		}
		for _, g := range allGraphs(n) {
			for _, s := range lists {
				if want := isChordless(g, s); impl.ChordlessOk(g, s) != want {
					t.Fatal(g.Next, s, want)
				}
			}
		}
	}
	lists := listsOf()
	for _, g := range searchGraphs() {
		for _, s := range lists[len(g.Next)] {
			if want := isChordless(g, s); impl.ChordlessOk(g, s) != want {
				t.Fatal(g.Next, s, want)
			}
		}
	}
}

func TestChordlessLoopsFromAnyVertexInEitherDirection(t *testing.T) {
	for _, g := range loopedGraphs() {
		loop := trueChordless(g)
		back := slices.Clone(loop)
		slices.Reverse(back)
		for i := range loop {
			if !impl.ChordlessOk(g, slices.Concat(loop[i:], loop[:i])) || !impl.ChordlessOk(g, slices.Concat(back[i:], back[:i])) {
				t.Fatal(g.Next, loop, i)
			}
		}
	}
}

func TestListsThatAreNoChordlessLoops(t *testing.T) {
	lists := [][]int64{
		nil, {}, {0}, {0, 1}, {0, 1, 2}, {2, 3, 4}, {0, 0, 0, 0}, {0, 1, 0, 1}, {0, 1, 2, 2}, {0, 0, 1, 2, 3}, {0, 1, 2, 3, 0}, {0, 1, 2, 3, 3},
		{0, 1, 2, 3, 0, 1, 2, 3}, {0, 2, 1, 3}, {0, 1, 3, 2}, {0, 1, 2, 4}, {0, 1, 2, 4, 3}, {4, 3, 0, 1, 2}, {0, 1, 2, 3, 4}, {0, 1, 2, 3, 5}, {1, 2, 3}, {-1, 1, 2, 3},
	}
	for _, far := range append([]int64{5, math.MaxInt64 - 1, math.MinInt64 + 1}, farVertices...) {
		for at := range 4 {
			list := []int64{0, 1, 2, 3}
			list[at] = far
			lists = append(lists, list)
		}
		lists = append(lists, []int64{far}, []int64{0, 1, 2, 3, far}, []int64{far, 0, 1, 2, 3}, []int64{far, far, far, far}, []int64{0, 1, far, 2, 3})
	}
	for _, s := range lists {
		if impl.ChordlessOk(house(), s) {
			t.Error(s)
		}
	}
	for _, s := range [][]int64{{0, 1, 2, 3}, {1, 0, 3, 2}, {3, 2, 1, 0}} {
		if !impl.ChordlessOk(house(), s) {
			t.Error("a loop without a chord", s)
		}
	}
	if impl.ChordlessOk(house(), slices.Repeat([]int64{0, 1, 2, 3}, 100000)) {
		t.Error("a very long list")
	}
	ring := ringGraph(impl.MaxV, 1)
	if !impl.ChordlessOk(ring, upTo(impl.MaxV)) || impl.ChordlessOk(ring, upTo(impl.MaxV+1)) || impl.ChordlessOk(ring, append(upTo(impl.MaxV), 0)) {
		t.Error("the ring of most vertices")
	}
}

func TestCliqueOkOfEveryList(t *testing.T) {
	for n := 1; n <= 4; n++ {
		lists := [][]int64{}
		for length := range n + 2 {
			lists = append(lists, allSlices(length, -1, int64(n))...)
		}
		for _, g := range allGraphs(n) {
			for _, s := range lists {
				if want := isSet(n, s) && isClique(g, s); impl.CliqueOk(g, s) != want {
					t.Fatal(g.Next, s, want)
				}
			}
		}
	}
	for _, g := range walkGraphs() {
		for _, set := range someSubsets(len(g.Next)) {
			if want := isClique(g, set); impl.CliqueOk(g, set) != want {
				t.Fatal(g.Next, set, want)
			}
		}
	}
}

func TestListsThatAreNoCliques(t *testing.T) {
	g := fullGraph(5)
	lists := [][]int64{{1, 0}, {2, 1, 0}, {0, 0}, {0, 1, 1}, {4, 4}, {0, 3, 2}, {5}, {3, 4, 5}, {-1}, {-1, 0}, {0, 1, 2, 3, 4, 5}, {0, 1, 2, 3, 4, 4}, {0, 1, 2, 3, 4, 0}}
	for _, far := range append([]int64{math.MaxInt64 - 1, math.MinInt64 + 1}, farVertices...) {
		lists = append(lists, []int64{far}, []int64{0, far}, []int64{far, 0}, []int64{0, 1, 2, 3, 4, far}, []int64{far, 1, 2, 3, 4})
	}
	for _, s := range lists {
		if impl.CliqueOk(g, s) || impl.CliqueOk(house(), s) {
			t.Error(s)
		}
	}
	for _, s := range [][]int64{nil, {}, {0}, {4}, {0, 4}, {0, 1, 2, 3, 4}} {
		if !impl.CliqueOk(g, s) {
			t.Error("a clique", s)
		}
	}
	if impl.CliqueOk(g, slices.Repeat([]int64{0, 1, 2, 3, 4}, 100000)) || impl.CliqueOk(g, upTo(100000)) {
		t.Error("a very long list")
	}
	most := fullGraph(impl.MaxV)
	if !impl.CliqueOk(most, upTo(impl.MaxV)) || impl.CliqueOk(most, upTo(impl.MaxV+1)) {
		t.Error("most vertices")
	}
}

func TestChordalOfInvalidGraphs(t *testing.T) {
	for _, bad := range badGraphs() {
		if impl.ChordalIn(bad.g) {
			t.Error(bad.name, "ChordalIn")
		}
		order, is := impl.PerfectOrder(bad.g)
		wantMissing(t, bad.name+", PerfectOrder", order, is)
		loop, not := impl.ChordlessLoop(bad.g)
		wantMissing(t, bad.name+", ChordlessLoop", loop, not)
		wantList(t, bad.name+", SimplicialIn", impl.SimplicialIn(bad.g))
		if got := impl.CliquesOf(bad.g); len(got) != 0 {
			t.Error(bad.name, "CliquesOf", got)
		}
		for _, s := range [][]int64{nil, {}, {0}, {0, 1}, {2, 3, 4}, {0, 1, 2, 3}, {2, 1, 0, 3}, {0, 1, 2, 4, 3}, upTo(16), upTo(17), {math.MaxInt64}, {math.MinInt64}} {
			if impl.ChordlessOk(bad.g, s) || impl.CliqueOk(bad.g, s) {
				t.Error(bad.name, "ChordlessOk or CliqueOk", s)
			}
		}
	}
}

// chordalCall is a call of one function of the chapter; its lists are all that the function
// returns.
type chordalCall struct {
	name string
	call func(g impl.Graph, list []int64) [][]int64
}

// chordalCalls returns calls of every function of the chapter.
func chordalCalls() []chordalCall {
	return []chordalCall{
		{"ChordalIn", func(g impl.Graph, _ []int64) [][]int64 { impl.ChordalIn(g); return nil }},
		{"PerfectOrder", func(g impl.Graph, _ []int64) [][]int64 { order, _ := impl.PerfectOrder(g); return [][]int64{order} }},
		{"ChordlessOk", func(g impl.Graph, loop []int64) [][]int64 { impl.ChordlessOk(g, loop); return nil }},
		{"ChordlessLoop", func(g impl.Graph, _ []int64) [][]int64 { loop, _ := impl.ChordlessLoop(g); return [][]int64{loop} }},
		{"SimplicialIn", func(g impl.Graph, _ []int64) [][]int64 { return [][]int64{impl.SimplicialIn(g)} }},
		{"CliqueOk", func(g impl.Graph, set []int64) [][]int64 { impl.CliqueOk(g, set); return nil }},
		{"CliquesOf", func(g impl.Graph, _ []int64) [][]int64 { return impl.CliquesOf(g) }},
	}
}

// Promise 35, for graphs and lists that are not valid too: they are arguments like others.
func TestChordalArgumentsStay(t *testing.T) {
	all := slices.Concat(someGraphs(), loopedGraphs())
	for _, bad := range badGraphs() {
		if len(bad.g.Next) <= impl.MaxV+1 {
			all = append(all, bad.g)
		}
	}
	for _, g := range all {
		lists := [][]int64{{}, {0}, {0, 0, 1}, {0, 1, 2, 3}, {2, 1, 0, 3}, {3, 2, 4}, {-1, 0, math.MaxInt64, math.MinInt64}, upTo(len(g.Next)), upTo(len(g.Next) + 1)}
		p, store := packedGraph(g)
		args, argStore := packed(lists)
		_, want := packed(lists)
		for _, list := range args {
			for _, c := range chordalCalls() {
				c.call(p, list)
				intact(t, c.name, p, store, g)
				if !sameLists(args, lists) || !slices.Equal(argStore, want) {
					t.Fatal(c.name, "changed its list", argStore)
				}
			}
		}
	}
}

// Promise 35: a result keeps its value when the argument is overwritten, and the other way round;
// its slices are apart.
func TestChordalResultsAreNewMemory(t *testing.T) {
	for _, g := range slices.Concat(someGraphs(), chordalGraphs(), loopedGraphs()) {
		for _, c := range chordalCalls() {
			p, store := packedGraph(g)
			got := c.call(p, nil)
			want := copied(got)
			apart(t, c.name, got)
			for _, list := range got {
				whole := list[:cap(list)]
				for i := range whole {
					whole[i] = guard
				}
			}
			intact(t, c.name, p, store, g)
			got = c.call(p, nil)
			for i := range store {
				store[i] = guard
			}
			clear(p.Next[:cap(p.Next)])
			if !sameLists(got, want) {
				t.Fatal(c.name, "shares memory with its argument", g.Next)
			}
		}
	}
}

func TestChordalResultsOfTwoCallsAreApart(t *testing.T) {
	for _, g := range []impl.Graph{house(), emptyGraph(1), emptyGraph(impl.MaxV), fullGraph(impl.MaxV), cubeGraph(), starGraph(impl.MaxV, 0), ringGraph(5, 1)} {
		for _, c := range chordalCalls() {
			first := c.call(g, nil)
			second := c.call(g, nil)
			want := copied(first)
			if !sameLists(second, want) {
				t.Fatal(c.name, "returns something else the second time", first, second)
			}
			apart(t, c.name, slices.Concat(first, second))
			for _, row := range first {
				clear(row)
			}
			clear(first[:cap(first)])
			if third := c.call(g, nil); !sameLists(second, want) || !sameLists(third, want) {
				t.Fatal(c.name, "keeps what it returned", second, third)
			}
		}
	}
}
