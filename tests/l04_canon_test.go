package tests

import (
	"fmt"
	"slices"
	"testing"

	"loop.example/g00871/impl"
)

// allLists returns every list of size distinct vertices below n, in ascending order; with size n
// these are the orders.
func allLists(n, size int) [][]int64 {
	out := [][]int64{{}}
	for range size {
		longer := [][]int64{}
		for _, s := range out {
			for v := range int64(n) {
				if !slices.Contains(s, v) {
					longer = append(longer, append(slices.Clone(s), v))
				}
			}
		}
		out = longer
	}
	return out
}

// trueCode returns the code of the graph in which list[i] is vertex i.
func trueCode(g impl.Graph, list []int64) []int64 {
	code := []int64{}
	for j := range list {
		for i := range j {
			if near(g, int(list[i]), int(list[j])) {
				code = append(code, 1)
			} else {
				code = append(code, 0)
			}
		}
	}
	return code
}

// matches says whether the vertices of list are neighbours in g exactly where those of p are.
func matches(p, g impl.Graph, list []int64) bool {
	for j := range list {
		for i := range j {
			if near(p, i, j) != near(g, int(list[i]), int(list[j])) {
				return false
			}
		}
	}
	return len(list) == len(p.Next)
}

// firstMatch returns the first of the ascending lists that matches, or nil.
func firstMatch(p, g impl.Graph, lists [][]int64) []int64 {
	for _, list := range lists {
		if matches(p, g, list) {
			return list
		}
	}
	return nil
}

// searchedFit tries the lists of vertices of g that start with start and match as far as they go,
// in ascending order, until one has a vertex for each vertex of p; nil if there is none.
func searchedFit(p, g impl.Graph, start []int64) []int64 {
	if len(start) == len(p.Next) {
		return start
	}
	for v := range int64(len(g.Next)) {
		longer := append(slices.Clone(start), v)
		if slices.Contains(start, v) || !matches(pickedGraph(p, upTo(len(longer))), g, longer) {
			continue
		}
		if found := searchedFit(p, g, longer); found != nil {
			return found
		}
	}
	return nil
}

// path3 returns the path 0-1-2.
func path3() impl.Graph {
	return rows([]int64{1}, []int64{0, 2}, []int64{1})
}

// starGraph returns n vertices of which centre is a neighbour of all others.
func starGraph(n, centre int) impl.Graph {
	return fromPairs(n, func(u, v int) bool { return u == centre || v == centre })
}

// cubeOf3 returns the 8 corners of the cube.
func cubeOf3() impl.Graph {
	return fromPairs(8, func(u, v int) bool { return slices.Contains([]int{1, 2, 4}, u^v) })
}

// crossed returns the loop of n vertices, an even number, with an edge between opposite ones.
func crossed(n int) impl.Graph {
	return fromPairs(n, func(u, v int) bool { return v-u == 1 || v-u == n-1 || v-u == n/2 })
}

// manyParted returns n vertices in k parts; vertices are neighbours if their parts differ.
func manyParted(n, k int) impl.Graph {
	return fromPairs(n, func(u, v int) bool { return u%k != v%k })
}

// ringsOf returns loops of these sizes beside each other.
func ringsOf(sizes ...int) impl.Graph {
	edges := [][2]int{}
	first := 0
	for _, size := range sizes {
		for i := range size - 1 {
			edges = append(edges, [2]int{first + i, first + i + 1})
		}
		edges = append(edges, [2]int{first, first + size - 1})
		first += size
	}
	return fromEdges(first, edges...)
}

// renamings returns some graphs that are isomorphic to g.
func renamings(g impl.Graph) []impl.Graph {
	list := []impl.Graph{}
	for _, order := range someOrders(len(g.Next)) {
		list = append(list, pickedGraph(g, order))
	}
	return list
}

// greatestSmall returns graphs of MaxSmall vertices, or one less, with few and with many
// automorphisms.
func greatestSmall() []impl.Graph {
	list := []impl.Graph{cubeOf3(), crossed(8), squareAndPentagon(), ringsOf(4, 4), ringsOf(5, 3), ringGraph(8, 3)}
	for n := impl.MaxSmall - 1; n <= impl.MaxSmall; n++ {
		list = append(list, emptyGraph(n), fullGraph(n), twoSidedGraph(n), starGraph(n, n/2), ringGraph(n, 1))
		list = append(list, fromPairs(n, func(u, v int) bool { return v-u == 1 }))
		list = append(list, fromPairs(n, func(u, v int) bool { return (v-1)/2 == u }))
		list = append(list, fromPairs(n, func(u, v int) bool { return (u*u*7+v*v*3+u*v)%3 == 0 }))
		list = append(list, manyParted(n, 3))
	}
	return list
}

// smallGraphs returns every graph of up to five vertices, some of six, and greatestSmall.
func smallGraphs() []impl.Graph {
	list := []impl.Graph{}
	for n := 1; n <= 5; n++ {
		list = append(list, allGraphs(n)...)
	}
	for i, g := range allGraphs(6) {
		if i%61 == 0 {
			list = append(list, g)
		}
	}
	return append(list, greatestSmall()...)
}

// wantFound fails unless a search returned exactly this list, and true.
func wantFound(t *testing.T, name string, got []int64, is bool, want ...int64) {
	t.Helper()
	if !is {
		t.Fatalf("%s: none, want %v", name, want)
	}
	wantList(t, name, got, want...)
}

// wantMissing fails unless a search returned no list, and false.
func wantMissing(t *testing.T, name string, got []int64, is bool) {
	t.Helper()
	if is || len(got) != 0 {
		t.Fatalf("%s: got %v %v, want nil and false", name, got, is)
	}
}

// wantSearched fails unless a search returned want, and true, or nothing, and false, if want is
// nil.
func wantSearched(t *testing.T, name string, got []int64, is bool, want []int64) {
	t.Helper()
	if want == nil {
		wantMissing(t, name, got, is)
		return
	}
	wantFound(t, name, got, is, want...)
}

// form returns the canonical form of the small graph g as a text.
func form(g impl.Graph) string {
	c, _ := impl.Canonical(g)
	return fmt.Sprint(len(c.Next), trueCode(c, upTo(len(c.Next))))
}

func TestCanonExamples(t *testing.T) {
	wantList(t, "CodeOf", impl.CodeOf(house()), 1, 0, 1, 1, 0, 1, 0, 0, 1, 1)
	c, order := impl.Canonical(path3())
	wantList(t, "order of Canonical", order, 0, 2, 1)
	wantList(t, "code of Canonical", impl.CodeOf(c), 0, 1, 1)
	list, is := impl.AlikeIn(path3(), starGraph(3, 0))
	wantFound(t, "AlikeIn", list, is, 1, 0, 2)
	if impl.Symmetries(house()) != 2 || impl.Symmetries(ringGraph(4, 1)) != 8 {
		t.Error("Symmetries")
	}
	wantList(t, "OrbitsOf", impl.OrbitsOf(house()), 0, 0, 2, 2, 4)
	list, is = impl.EmbedsIn(path3(), house())
	wantFound(t, "EmbedsIn", list, is, 0, 1, 2)
	if !impl.FreeOf(house(), emptyGraph(3)) {
		t.Error("FreeOf")
	}
}

func TestCodesOfEveryGraph(t *testing.T) {
	for _, g := range walkGraphs() {
		wantList(t, "CodeOf", impl.CodeOf(g), trueCode(g, upTo(len(g.Next)))...)
	}
	wantList(t, "CodeOf of most vertices", impl.CodeOf(fullGraph(impl.MaxV)), slices.Repeat([]int64{1}, 120)...)
	wantList(t, "greater vertex first", impl.CodeOf(fromEdges(4, [2]int{0, 3}, [2]int{1, 2})), 0, 0, 1, 1, 0, 0)
}

// The first of the orders with the smallest code is the smallest one: they are tried in ascending
// order.
func TestCanonicalIsTheSmallestOfAllOrders(t *testing.T) {
	for _, g := range smallGraphs() {
		n := len(g.Next)
		var best, least []int64
		for _, order := range allLists(n, n) {
			code := trueCode(g, order)
			if best == nil || slices.Compare(code, least) < 0 {
				best, least = order, code
			}
		}
		c, order := impl.Canonical(g)
		wantList(t, "order of Canonical", order, best...)
		wantGraph(t, "Canonical", c, true, pickedGraph(g, best))
		wantList(t, "code of Canonical", impl.CodeOf(c), least...)
	}
}

// alikeAsSearched fails unless AlikeIn agrees with a trial of all orders, and with Canonical.
func alikeAsSearched(t *testing.T, a, b impl.Graph, orders [][]int64) {
	t.Helper()
	var want []int64
	if len(a.Next) == len(b.Next) {
		want = firstMatch(b, a, orders)
	}
	got, is := impl.AlikeIn(a, b)
	wantSearched(t, "AlikeIn", got, is, want)
	if want != nil {
		r, done := impl.Renamed(a, got)
		wantGraph(t, "Renamed", r, done, b)
	}
	x, _ := impl.Canonical(a)
	y, _ := impl.Canonical(b)
	if impl.SameGraph(x, y) != is {
		t.Fatal("promise 4", a, b, x, y)
	}
}

// Promise 4, for all pairs of graphs of up to four vertices, of equal and of different sizes.
func TestAlikeOfAllPairsOfSmallestGraphs(t *testing.T) {
	list := []impl.Graph{}
	for n := 1; n <= 4; n++ {
		list = append(list, allGraphs(n)...)
	}
	for _, a := range list {
		orders := allLists(len(a.Next), len(a.Next))
		for _, b := range list {
			alikeAsSearched(t, a, b, orders)
		}
	}
}

// Promise 4, for graphs of five to eight vertices and others that differ from them by their
// numbers only, by one edge, or by more.
func TestAlikeOfOtherSmallGraphs(t *testing.T) {
	five := allGraphs(5)
	orders := allLists(5, 5)
	for i, a := range five {
		for _, b := range renamings(a) {
			alikeAsSearched(t, a, b, orders)
		}
		alikeAsSearched(t, a, five[i^1], orders)
		alikeAsSearched(t, a, five[(i*7+3)%len(five)], orders)
	}
	great := greatestSmall()
	for i, a := range great {
		orders := allLists(len(a.Next), len(a.Next))
		again := renamings(a)
		alikeAsSearched(t, a, a, orders)
		alikeAsSearched(t, a, again[i%len(again)], orders)
		alikeAsSearched(t, again[5], a, orders)
		for _, b := range great {
			alikeAsSearched(t, a, b, orders)
		}
	}
}

// Promise 4, for every graph of six vertices: a form is isomorphic to its graph, and there are as
// many forms as isomorphism classes, so that isomorphic graphs have equal forms.
func TestFormsOfAllGraphsOfSixVertices(t *testing.T) {
	for n, classes := range []int{0, 1, 2, 4, 11, 34, 156} {
		if n == 0 {
			continue
		}
		forms := map[string]bool{}
		for _, g := range allGraphs(n) {
			c, order := impl.Canonical(g)
			if !isOrder(n, order) || !sameLists(c.Next, pickedGraph(g, order).Next) {
				t.Fatal(g, c, order)
			}
			forms[form(g)] = true
		}
		if len(forms) != classes {
			t.Fatal(n, "vertices have", len(forms), "forms")
		}
	}
}

// lastIsGreatest says whether no vertex has more neighbours than the last one.
func lastIsGreatest(g impl.Graph) bool {
	last := g.Next[len(g.Next)-1]
	return !slices.ContainsFunc(g.Next, func(row []int64) bool { return len(row) > len(last) })
}

// Promise 4, for seven and eight vertices: each class of graphs comes from a class with one vertex
// less, by a new vertex that has as many neighbours as any other, and the numbers of classes are
// known. A class with s automorphisms has n!/s graphs, and all classes together have every graph.
func TestFormsOfAllClassesOfGraphs(t *testing.T) {
	classes := map[string]impl.Graph{"": emptyGraph(1)}
	all := int64(1)
	for n, many := range []int{0, 1, 2, 4, 11, 34, 156, 1044, 12346} {
		if n < 2 {
			continue
		}
		more := map[string]impl.Graph{}
		for _, g := range classes {
			for code := range 1 << (n - 1) {
				longer := fromPairs(n, func(u, v int) bool { return v < n-1 && near(g, u, v) || v == n-1 && code>>u&1 == 1 })
				if lastIsGreatest(longer) {
					more[form(longer)] = longer
				}
			}
		}
		if len(more) != many {
			t.Fatal(n, "vertices have", len(more), "forms")
		}
		all *= int64(n)
		labelled := int64(0)
		for _, g := range more {
			labelled += all / impl.Symmetries(g)
		}
		if labelled != 1<<(n*(n-1)/2) {
			t.Fatal(n, "vertices have", labelled, "graphs")
		}
		classes = more
	}
}

func TestFormOfACanonicalForm(t *testing.T) {
	for _, g := range smallGraphs() {
		c, _ := impl.Canonical(g)
		again, order := impl.Canonical(c)
		wantGraph(t, "Canonical of a form", again, true, c)
		wantList(t, "order of a form", order, upTo(len(g.Next))...)
	}
}

func TestDifferentGraphsOfEqualDegrees(t *testing.T) {
	pairs := [][2]impl.Graph{
		{ringGraph(6, 1), ringsOf(3, 3)},
		{ringGraph(7, 1), ringsOf(3, 4)},
		{ringGraph(8, 1), ringsOf(4, 4)},
		{ringsOf(3, 5), ringsOf(4, 4)},
		{crossed(6), fromPairs(6, func(u, v int) bool { return u/3 == v/3 || v-u == 3 })},
		{cubeOf3(), crossed(8)},
	}
	for _, p := range pairs {
		if !slices.Equal(impl.DegreesOf(p[0]), impl.DegreesOf(p[1])) {
			t.Fatal("the degrees differ", p)
		}
		list, is := impl.AlikeIn(p[0], p[1])
		wantMissing(t, "AlikeIn", list, is)
		if form(p[0]) == form(p[1]) {
			t.Fatal("equal forms", p)
		}
	}
}

func TestSymmetriesAndOrbitsOfAllOrders(t *testing.T) {
	for _, g := range smallGraphs() {
		n := len(g.Next)
		many := int64(0)
		orbits := slices.Repeat([]int64{impl.MaxV}, n)
		for _, order := range allLists(n, n) {
			if !matches(g, g, order) {
				continue
			}
			many++
			for v, u := range order {
				orbits[v] = min(orbits[v], u)
			}
		}
		if got := impl.Symmetries(g); got != many {
			t.Fatal("Symmetries", g, got, many)
		}
		wantList(t, "OrbitsOf", impl.OrbitsOf(g), orbits...)
	}
}

func TestKnownSymmetries(t *testing.T) {
	// The smallest tree without a symmetry: arms of one, two and three vertices.
	tree := fromEdges(7, [2]int{0, 1}, [2]int{0, 2}, [2]int{2, 3}, [2]int{0, 4}, [2]int{4, 5}, [2]int{5, 6})
	cases := []struct {
		name   string
		g      impl.Graph
		many   int64
		orbits []int64
	}{
		{"one vertex", emptyGraph(1), 1, []int64{0}},
		{"an edge", fullGraph(2), 2, []int64{0, 0}},
		{"eight without edges", emptyGraph(8), 40320, make([]int64, 8)},
		{"eight complete", fullGraph(8), 40320, make([]int64, 8)},
		{"ring of eight", ringGraph(8, 1), 16, make([]int64, 8)},
		{"cube", cubeOf3(), 48, make([]int64, 8)},
		{"two sides of four", twoSidedGraph(8), 1152, make([]int64, 8)},
		{"star", starGraph(8, 0), 5040, []int64{0, 1, 1, 1, 1, 1, 1, 1}},
		{"star, last centre", starGraph(8, 7), 5040, []int64{0, 0, 0, 0, 0, 0, 0, 7}},
		{"path", path3(), 2, []int64{0, 1, 0}},
		{"tree", tree, 1, upTo(7)},
		{"rings of three and five", ringsOf(3, 5), 60, []int64{0, 0, 0, 3, 3, 3, 3, 3}},
		{"square and pentagon", squareAndPentagon(), 4, []int64{0, 1, 2, 1, 4, 5, 5, 4}},
	}
	for _, c := range cases {
		if got := impl.Symmetries(c.g); got != c.many {
			t.Error(c.name, "Symmetries", got)
		}
		wantList(t, c.name+", OrbitsOf", impl.OrbitsOf(c.g), c.orbits...)
	}
}

// fitAsSearched fails unless EmbedsIn and FreeOf agree with this search.
func fitAsSearched(t *testing.T, p, g impl.Graph, want []int64) {
	t.Helper()
	got, is := impl.EmbedsIn(p, g)
	wantSearched(t, "EmbedsIn", got, is, want)
	if impl.FreeOf(g, p) == is {
		t.Fatal("FreeOf", g, p, got)
	}
}

func TestEmbeddingIsTheSmallestOfAllLists(t *testing.T) {
	small := []impl.Graph{}
	for n := 1; n <= 4; n++ {
		small = append(small, allGraphs(n)...)
	}
	for n := 1; n <= 6; n++ {
		lists := [][][]int64{}
		for size := range 5 {
			lists = append(lists, allLists(n, size))
		}
		for i, g := range allGraphs(n) {
			if n == 5 && i%3 != 0 || n == 6 && i%251 != 0 {
				continue
			}
			for _, p := range small {
				fitAsSearched(t, p, g, firstMatch(p, g, lists[len(p.Next)]))
			}
		}
	}
}

func TestEmbeddingsOfGreaterGraphs(t *testing.T) {
	patterns := []impl.Graph{house(), path3(), ringGraph(5, 1), ringGraph(6, 1), starGraph(5, 2), ringsOf(3, 3)}
	patterns = append(patterns, allGraphs(3)...)
	patterns = append(patterns, twoEdges(), fullGraph(4), emptyGraph(4))
	for _, g := range walkGraphs() {
		if len(g.Next) < 6 {
			continue
		}
		for _, p := range patterns {
			fitAsSearched(t, p, g, searchedFit(p, g, nil))
		}
	}
}

func TestEmbeddingsOfGreatestSmallGraphs(t *testing.T) {
	for _, p := range greatestSmall() {
		for _, g := range append(renamings(p), greatestSmall()...) {
			fitAsSearched(t, p, g, searchedFit(p, g, nil))
		}
		beside, _ := impl.Beside(fullGraph(3), p)
		fitAsSearched(t, p, beside, searchedFit(p, beside, nil))
	}
}

func TestEmbeddingsAreInduced(t *testing.T) {
	list, is := impl.EmbedsIn(path3(), fullGraph(3))
	wantMissing(t, "a path in a triangle", list, is)
	list, is = impl.EmbedsIn(emptyGraph(2), fullGraph(impl.MaxV))
	wantMissing(t, "two apart in a complete graph", list, is)
	list, is = impl.EmbedsIn(ringGraph(4, 1), house())
	wantFound(t, "a square in the house", list, is, 0, 1, 2, 3)
	list, is = impl.EmbedsIn(fullGraph(3), house())
	wantFound(t, "a triangle in the house", list, is, 2, 3, 4)
	list, is = impl.EmbedsIn(path3(), rows([]int64{3}, []int64{3}, nil, []int64{0, 1}))
	wantFound(t, "a path through the last vertex", list, is, 0, 3, 1)
}

func TestCanonOfOneVertex(t *testing.T) {
	one := emptyGraph(1)
	wantList(t, "CodeOf", impl.CodeOf(one))
	c, order := impl.Canonical(one)
	wantGraph(t, "Canonical", c, true, one)
	wantList(t, "order of Canonical", order, 0)
	list, is := impl.AlikeIn(one, one)
	wantFound(t, "AlikeIn", list, is, 0)
	for n := 1; n <= impl.MaxV; n++ {
		list, is = impl.EmbedsIn(one, fullGraph(n))
		wantFound(t, "EmbedsIn", list, is, 0)
		if impl.FreeOf(emptyGraph(n), one) {
			t.Error("FreeOf", n)
		}
	}
	list, is = impl.EmbedsIn(fullGraph(2), one)
	wantMissing(t, "more vertices than there are", list, is)
	list, is = impl.AlikeIn(one, emptyGraph(2))
	wantMissing(t, "different sizes", list, is)
}

func TestGraphsOfMaxSmallVertices(t *testing.T) {
	full := fullGraph(impl.MaxSmall)
	c, order := impl.Canonical(full)
	wantGraph(t, "Canonical", c, true, full)
	wantList(t, "order of Canonical", order, upTo(impl.MaxSmall)...)
	list, is := impl.AlikeIn(full, full)
	wantFound(t, "AlikeIn", list, is, upTo(impl.MaxSmall)...)
	for n := 1; n <= impl.MaxV; n++ {
		list, is = impl.EmbedsIn(full, fullGraph(n))
		if n < impl.MaxSmall {
			wantMissing(t, "EmbedsIn, too few vertices", list, is)
		} else {
			wantFound(t, "EmbedsIn", list, is, upTo(impl.MaxSmall)...)
		}
		if impl.FreeOf(fullGraph(n), full) != (n < impl.MaxSmall) {
			t.Error("FreeOf", n)
		}
	}
}

// In these graphs very many lists match almost to their ends: a search that tries all of them takes
// very long.
func TestEmbeddingsAmongVeryManyLists(t *testing.T) {
	full := fullGraph(8)
	apart := fromPairs(8, func(u, v int) bool { return v < 7 })
	if !impl.FreeOf(fullGraph(16), apart) || !impl.FreeOf(emptyGraph(16), starGraph(8, 7)) {
		t.Error("no vertex is left for the last one")
	}
	if !impl.FreeOf(manyParted(16, 7), full) || impl.FreeOf(manyParted(16, 8), full) {
		t.Error("seven or eight parts")
	}
	cliques, _ := impl.Complement(manyParted(16, 7))
	if !impl.FreeOf(cliques, emptyGraph(8)) {
		t.Error("seven cliques")
	}
	odd, _ := impl.Complement(ringGraph(15, 1))
	if !impl.FreeOf(odd, full) || !impl.FreeOf(odd, apart) {
		t.Error("complement of a loop")
	}
	if !impl.FreeOf(cubeGraph(), twoSidedGraph(8)) || impl.FreeOf(cubeGraph(), cubeOf3()) {
		t.Error("cube")
	}
	list, is := impl.EmbedsIn(emptyGraph(8), cubeGraph())
	wantFound(t, "eight corners apart", list, is, 0, 3, 5, 6, 9, 10, 12, 15)
}

// wantNoForm fails unless the functions for one small graph return their zero values.
func wantNoForm(t *testing.T, name string, g impl.Graph) {
	t.Helper()
	c, order := impl.Canonical(g)
	if len(c.Next) != 0 || len(order) != 0 || impl.Symmetries(g) != 0 || len(impl.OrbitsOf(g)) != 0 {
		t.Error(name, c, order, impl.Symmetries(g), impl.OrbitsOf(g))
	}
	for _, other := range []impl.Graph{house(), emptyGraph(1), fullGraph(8), g} {
		list, is := impl.AlikeIn(g, other)
		wantMissing(t, name+", AlikeIn, a", list, is)
		list, is = impl.AlikeIn(other, g)
		wantMissing(t, name+", AlikeIn, b", list, is)
		list, is = impl.EmbedsIn(g, other)
		wantMissing(t, name+", EmbedsIn, p", list, is)
		if impl.FreeOf(other, g) {
			t.Error(name, "FreeOf, p", other)
		}
	}
}

func TestCanonOfInvalidGraphs(t *testing.T) {
	for _, bad := range badGraphs() {
		wantList(t, bad.name+", CodeOf", impl.CodeOf(bad.g))
		wantNoForm(t, bad.name, bad.g)
		for _, p := range []impl.Graph{emptyGraph(1), path3(), house(), fullGraph(8), fullGraph(9)} {
			list, is := impl.EmbedsIn(p, bad.g)
			wantMissing(t, bad.name+", EmbedsIn, g", list, is)
			if impl.FreeOf(bad.g, p) {
				t.Error(bad.name, "FreeOf, g", p)
			}
		}
	}
}

func TestCanonOfGraphsThatAreNotSmall(t *testing.T) {
	for n := impl.MaxSmall + 1; n <= impl.MaxV; n++ {
		for _, g := range []impl.Graph{emptyGraph(n), fullGraph(n), ringGraph(n, 1), twoSidedGraph(n)} {
			wantNoForm(t, "not small", g)
			wantList(t, "CodeOf", impl.CodeOf(g), trueCode(g, upTo(n))...)
			for _, other := range []impl.Graph{emptyGraph(16), fullGraph(16), cubeGraph()} {
				list, is := impl.EmbedsIn(g, other)
				wantMissing(t, "EmbedsIn", list, is)
				if impl.FreeOf(other, g) {
					t.Error("FreeOf", g, other)
				}
			}
			for _, p := range []impl.Graph{emptyGraph(1), fullGraph(2), path3(), ringGraph(4, 1), emptyGraph(5)} {
				fitAsSearched(t, p, g, searchedFit(p, g, nil))
			}
		}
	}
}

// canonCall is a call of one function of the chapter; its lists are all that the function returns.
type canonCall struct {
	name string
	call func(impl.Graph) [][]int64
}

// canonCalls returns calls of every function of the chapter with one graph argument left open, in
// each place where a graph stands; the other graph is other.
func canonCalls(other impl.Graph) []canonCall {
	one := func(list []int64, _ bool) [][]int64 { return [][]int64{list} }
	return []canonCall{
		{"CodeOf", func(g impl.Graph) [][]int64 { return [][]int64{impl.CodeOf(g)} }},
		{"Canonical", func(g impl.Graph) [][]int64 { c, order := impl.Canonical(g); return append(c.Next, order) }},
		{"Symmetries", func(g impl.Graph) [][]int64 { return [][]int64{{impl.Symmetries(g)}} }},
		{"OrbitsOf", func(g impl.Graph) [][]int64 { return [][]int64{impl.OrbitsOf(g)} }},
		{"AlikeIn, a", func(g impl.Graph) [][]int64 { return one(impl.AlikeIn(g, other)) }},
		{"AlikeIn, b", func(g impl.Graph) [][]int64 { return one(impl.AlikeIn(other, g)) }},
		{"AlikeIn, both", func(g impl.Graph) [][]int64 { return one(impl.AlikeIn(g, g)) }},
		{"EmbedsIn, p", func(g impl.Graph) [][]int64 { return one(impl.EmbedsIn(g, other)) }},
		{"EmbedsIn, g", func(g impl.Graph) [][]int64 { return one(impl.EmbedsIn(other, g)) }},
		{"EmbedsIn, both", func(g impl.Graph) [][]int64 { return one(impl.EmbedsIn(g, g)) }},
		{"FreeOf, g", func(g impl.Graph) [][]int64 { impl.FreeOf(g, other); return nil }},
		{"FreeOf, p", func(g impl.Graph) [][]int64 { impl.FreeOf(other, g); return nil }},
		{"FreeOf, both", func(g impl.Graph) [][]int64 { impl.FreeOf(g, g); return nil }},
	}
}

// Promise 35, for invalid graphs too: they are arguments like others.
func TestCanonArgumentsStay(t *testing.T) {
	all := someGraphs()
	for _, bad := range badGraphs() {
		all = append(all, bad.g)
	}
	for _, g := range all {
		p, store := packedGraph(g)
		other, otherStore := packedGraph(house())
		for _, c := range canonCalls(other) {
			c.call(p)
			intact(t, c.name, p, store, g)
			intact(t, c.name, other, otherStore, house())
		}
	}
	for _, g := range greatestSmall() {
		again := renamings(g)[4]
		p, store := packedGraph(g)
		other, otherStore := packedGraph(again)
		for _, c := range canonCalls(other) {
			c.call(p)
			intact(t, c.name, p, store, g)
			intact(t, c.name, other, otherStore, again)
		}
	}
}

// Promise 35: a result keeps its value when the arguments are overwritten, and the other way
// round; its slices are apart.
func TestCanonResultsAreNewMemory(t *testing.T) {
	for _, g := range append(someGraphs(), greatestSmall()...) {
		again := renamings(g)[1%len(renamings(g))]
		for i := range canonCalls(again) {
			p, store := packedGraph(g)
			other, otherStore := packedGraph(again)
			c := canonCalls(other)[i]
			got := c.call(p)
			want := copied(got)
			apart(t, c.name, got)
			for _, list := range got {
				whole := list[:cap(list)]
				for i := range whole {
					whole[i] = guard
				}
			}
			intact(t, c.name, p, store, g)
			intact(t, c.name, other, otherStore, again)
			got = c.call(p)
			for i := range store {
				store[i], otherStore[i] = guard, guard
			}
			clear(p.Next[:cap(p.Next)])
			clear(other.Next[:cap(other.Next)])
			if !sameLists(got, want) {
				t.Fatal(c.name, "shares memory with an argument", g)
			}
		}
	}
}

func TestCanonResultsOfTwoCallsAreApart(t *testing.T) {
	for _, g := range append(greatestSmall(), house(), emptyGraph(1), fullGraph(impl.MaxV)) {
		for _, c := range canonCalls(renamings(g)[0]) {
			apart(t, c.name, append(c.call(g), c.call(g)...))
		}
	}
}

// The rows of Canonical's graph are written over, which must not change a later result.
func TestCanonicalKeepsNothing(t *testing.T) {
	c, order := impl.Canonical(house())
	want, wantOrder := copied(c.Next), slices.Clone(order)
	for _, row := range c.Next {
		clear(row)
	}
	clear(c.Next)
	clear(order)
	again, orderAgain := impl.Canonical(house())
	if !sameLists(again.Next, want) || !slices.Equal(orderAgain, wantOrder) {
		t.Error(again, orderAgain)
	}
}
