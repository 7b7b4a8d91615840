package tests

import (
	"fmt"
	"math"
	"slices"
	"testing"

	"loop.example/g00871/impl"
)

// gridGraph returns a grid of a rows and b columns.
func gridGraph(a, b int) impl.Graph {
	return fromPairs(a*b, func(u, v int) bool { return v-u == b || v-u == 1 && v%b != 0 })
}

// wheelGraph returns a loop of n-1 vertices and one more vertex, the last one, that is a neighbour
// of all others.
func wheelGraph(n int) impl.Graph {
	return fromPairs(n, func(u, v int) bool { return v == n-1 || v-u == 1 || v-u == n-2 })
}

// bounds returns numbers that the treewidth of n vertices is compared with.
func bounds(n int) []int64 {
	out := []int64{math.MinInt64, math.MinInt64 + 1, -1 << 32, 1 << 32, math.MaxInt64 - 1, math.MaxInt64}
	for k := int64(-3); k <= int64(n)+2; k++ {
		out = append(out, k)
	}
	return out
}

// eachOrder gives all orders of n vertices to do, in ascending order and in the same memory.
func eachOrder(n int, do func(order []int64)) {
	order := make([]int64, 0, n)
	used := make([]bool, n)
	var extend func()
	extend = func() {
		if len(order) == n {
			do(order)
			return
		}
		for v := range n {
			if !used[v] {
				used[v] = true
				order = append(order, int64(v))
				extend()
				order = order[:len(order)-1]
				used[v] = false
			}
		}
	}
	extend()
}

// thinnest is what is to be known of the treewidth of a graph: the smallest width of its orders, the
// first order of this width, and the first vertices of all orders of this width.
type thinnest struct {
	width  int64
	best   []int64
	firsts []int64
}

// thinnestOf takes the OrderWidth of every order of g.
func thinnestOf(g impl.Graph) thinnest {
	x := thinnest{width: impl.MaxV}
	eachOrder(len(g.Next), func(order []int64) {
		width := impl.OrderWidth(g, order)
		if width < x.width {
			x = thinnest{width, slices.Clone(order), nil}
		}
		if width == x.width && !slices.Contains(x.firsts, order[0]) {
			x.firsts = append(x.firsts, order[0])
		}
	})
	return x
}

// eliminated returns m after v was eliminated and left remained.
func (m table) eliminated(left []int64, v int64) table {
	out := make(table, len(m))
	for i, row := range m {
		out[i] = slices.Clone(row)
	}
	out.join(left, v)
	return out
}

// within returns the first order of left in which no vertex has more than most neighbours when it is
// eliminated, or nil if there is none. It tries one vertex after the other, and remembers nothing.
func (m table) within(left []int64, most int64) []int64 {
	if len(left) == 0 {
		return []int64{}
	}
	for i, v := range left {
		if int64(m.fewest(left, v)) > most {
			continue
		}
		rest := slices.Delete(slices.Clone(left), i, i+1)
		if order := m.eliminated(rest, v).within(rest, most); order != nil {
			return append([]int64{v}, order...)
		}
	}
	return nil
}

// width returns the smallest width of an order of left.
func (m table) width(left []int64) int64 {
	width := int64(0)
	for m.within(left, width) == nil {
		width++
	}
	return width
}

// searchedThinnest returns what thinnestOf returns. It gives up an order as soon as that is too
// wide, so that it has an end for greater graphs too.
func searchedThinnest(g impl.Graph) thinnest {
	m, all := tableOf(g), upTo(len(g.Next))
	width := m.width(all)
	x := thinnest{width: width, best: m.within(all, width)}
	for i, v := range all {
		rest := slices.Delete(slices.Clone(all), i, i+1)
		if int64(m.fewest(all, v)) <= width && m.eliminated(rest, v).within(rest, width) != nil {
			x.firsts = append(x.firsts, v)
		}
	}
	return x
}

// trueBehind returns the vertices other than v and not in gone that are found from v if the search
// goes on from vertices in gone only.
func trueBehind(g impl.Graph, gone []int64, v int64) []int64 {
	seen := []int64{v}
	out := []int64{}
	for todo := []int64{v}; len(todo) > 0; {
		w := todo[0]
		todo = todo[1:]
		for _, u := range g.Next[w] {
			if slices.Contains(seen, u) {
				continue
			}
			seen = append(seen, u)
			if slices.Contains(gone, u) {
				todo = append(todo, u)
			} else {
				out = append(out, u)
			}
		}
	}
	slices.Sort(out)
	return out
}

// trueWidthsFrom returns the widths after every set of vertices; the place of a set is its code. An
// order counts for each set that it starts with.
func trueWidthsFrom(g impl.Graph) []int64 {
	n := len(g.Next)
	out := slices.Repeat([]int64{impl.MaxV}, 1<<n)
	out[len(out)-1] = 0
	eachOrder(n, func(order []int64) {
		later := trueLater(g, order)
		code := len(out) - 1
		for i := n - 1; i >= 0; i-- {
			code &^= 1 << order[i]
			out[code] = min(out[code], longest(listsAt(later, order[i:])))
		}
	})
	return out
}

// listsAt returns the lists with the numbers in list.
func listsAt(lists [][]int64, list []int64) [][]int64 {
	out := [][]int64{}
	for _, v := range list {
		out = append(out, lists[v])
	}
	return out
}

// without returns the vertices below n that are not in set.
func without(n int, set []int64) []int64 {
	return slices.DeleteFunc(upTo(n), func(v int64) bool { return slices.Contains(set, v) })
}

// wideGraphs returns graphs of six to MaxWide vertices.
func wideGraphs() []impl.Graph {
	list := []impl.Graph{gridGraph(2, 3), gridGraph(2, 4), gridGraph(2, 5), gridGraph(5, 2), gridGraph(3, 3), crossed(6), crossed(8), crossed(10)}
	for n := 6; n <= impl.MaxWide; n++ {
		list = append(list, wheelGraph(n))
		for _, of := range []int64{15, 30, 45, 60, 75, 90} {
			list = append(list, diceWant(int64(n)*of, int64(n), of))
		}
	}
	for _, g := range slices.Concat(walkGraphs(), chordalGraphs(), loopedGraphs()) {
		if len(g.Next) >= 6 && len(g.Next) <= impl.MaxWide {
			list = append(list, g)
		}
	}
	return list
}

// tooWide returns valid graphs of more than MaxWide vertices.
func tooWide() []impl.Graph {
	list := []impl.Graph{cubeGraph(), gridGraph(4, 4), gridGraph(3, 4), crossed(12), ringsOf(3, 4, 5)}
	for n := impl.MaxWide + 1; n <= impl.MaxV; n++ {
		list = append(list, emptyGraph(n), fullGraph(n), ringGraph(n, 1), starGraph(n, 0), pathPower(n, 2))
	}
	return list
}

// wantThinnest fails unless the functions of the treewidth answer x of g.
func wantThinnest(t *testing.T, g impl.Graph, x thinnest) {
	t.Helper()
	n := len(g.Next)
	if got := impl.TreeWidth(g); got != x.width {
		t.Fatalf("TreeWidth %v: got %d, want %d", g.Next, got, x.width)
	}
	for _, k := range bounds(n) {
		if got := impl.WidthAtMost(g, k); got != (x.width <= k) {
			t.Fatalf("WidthAtMost %v %d: got %v, but the treewidth is %d", g.Next, k, got, x.width)
		}
	}
	name := fmt.Sprint(" of ", g.Next)
	wantList(t, "BestOrder"+name, impl.BestOrder(g), x.best...)
	wantList(t, "ThinnestFirst"+name, impl.ThinnestFirst(g), x.firsts...)
	if width := impl.OrderWidth(g, impl.BestOrder(g)); width != x.width {
		t.Fatalf("BestOrder %v has width %d, want %d", g.Next, width, x.width)
	}
	wantBestDecomp(t, g, x)
	for _, gone := range [][]int64{nil, {}} {
		if got := impl.WidthFrom(g, gone); got != x.width {
			t.Fatalf("WidthFrom %v %v: got %d, want %d", g.Next, gone, got, x.width)
		}
	}
	if got := impl.WidthFrom(g, upTo(n)); got != 0 {
		t.Fatalf("WidthFrom %v, no vertex remains: %d", g.Next, got)
	}
}

// wantBestDecomp fails unless BestDecomp returns the tidied decomposition of the best order.
func wantBestDecomp(t *testing.T, g impl.Graph, x thinnest) {
	t.Helper()
	name := fmt.Sprint("BestDecomp of ", g.Next)
	d, is := impl.BestDecomp(g)
	wantDecomp(t, name, d, is, trueTidied(trueDecompBy(g, x.best)))
	by, _ := impl.DecompBy(g, impl.BestOrder(g))
	tidied, _ := impl.TidiedDecomp(g, by)
	wantDecomp(t, name, d, is, tidied)
	if !impl.DecompOk(g, d) || !isDecomp(g, d) || impl.WidthOf(d) != x.width || trueWidth(d) != x.width {
		t.Fatal(name, d, x.width)
	}
}

// wantNoWidth fails unless the functions that refuse g return their zero values.
func wantNoWidth(t *testing.T, name string, g impl.Graph) {
	t.Helper()
	if got := impl.TreeWidth(g); got != -1 {
		t.Errorf("%s, TreeWidth: %d", name, got)
	}
	for _, k := range bounds(impl.MaxV) {
		if impl.WidthAtMost(g, k) {
			t.Errorf("%s, WidthAtMost %d", name, k)
		}
	}
	wantList(t, name+", BestOrder", impl.BestOrder(g))
	wantList(t, name+", ThinnestFirst", impl.ThinnestFirst(g))
	d, is := impl.BestDecomp(g)
	wantNoDecomp(t, name+", BestDecomp", d, is)
	n := len(g.Next)
	for _, gone := range [][]int64{nil, {}, {0}, {2}, {0, 1, 2, 3, 4}, {5}, {-1}, {1, 0}, upTo(n), upTo(max(n-1, 0)), {math.MaxInt64}} {
		if got := impl.WidthFrom(g, gone); got != -1 {
			t.Errorf("%s, WidthFrom %d vertices: %d", name, len(gone), got)
		}
	}
}

func TestWidthExamples(t *testing.T) {
	g := house()
	if impl.TreeWidth(g) != 2 || impl.TreeWidth(gridGraph(3, 3)) != 3 {
		t.Error("TreeWidth", impl.TreeWidth(g), impl.TreeWidth(gridGraph(3, 3)))
	}
	if !impl.WidthAtMost(g, 2) || impl.WidthAtMost(g, 1) {
		t.Error("WidthAtMost", impl.WidthAtMost(g, 2), impl.WidthAtMost(g, 1))
	}
	wantList(t, "BestOrder", impl.BestOrder(g), 0, 1, 2, 3, 4)
	d, is := impl.BestDecomp(g)
	wantDecomp(t, "BestDecomp", d, is, decomp(listed([]int64{0, 1, 3}, []int64{1, 2, 3}, []int64{2, 3, 4}), []int64{0, 1}, []int64{1, 2}))
	if impl.WidthOf(d) != 2 {
		t.Error("WidthOf BestDecomp", impl.WidthOf(d))
	}
	wantList(t, "BehindOf", impl.BehindOf(g, []int64{2}, 1), 0, 3, 4)
	if got := impl.WidthFrom(starGraph(4, 0), []int64{0}); got != 2 {
		t.Error("WidthFrom", got)
	}
	wantList(t, "ThinnestFirst", impl.ThinnestFirst(g), 0, 1, 4)
}

// Promise 10: the width of each order of these graphs is looked at.
func TestWidthsOfAllOrders(t *testing.T) {
	list := []impl.Graph{}
	for _, o := range smallOrdered() {
		list = append(list, o.g)
	}
	list = append(list, ringGraph(7, 1), starGraph(7, 3), pathPower(7, 3), ringsOf(3, 4), wheelGraph(7), diceWant(7, 7, 50), emptyGraph(7))
	list = append(list, cubeOf3(), crossed(8), squareAndPentagon(), gridGraph(2, 4), diceWant(8, 8, 50), gridGraph(3, 3))
	for _, g := range list {
		x := thinnestOf(g)
		wantThinnest(t, g, x)
		if y := searchedThinnest(g); y.width != x.width || !slices.Equal(y.best, x.best) || !slices.Equal(y.firsts, x.firsts) {
			t.Fatal("the test's own search", g.Next, x, y)
		}
	}
}

// The same for all orders of a graph of MaxWide vertices.
func TestWidthsOfAllOrdersOfMostVertices(t *testing.T) {
	g := petersenGraph()
	wantThinnest(t, g, thinnestOf(g))
}

func TestWidthsOfSearchedOrders(t *testing.T) {
	for _, g := range wideGraphs() {
		wantThinnest(t, g, searchedThinnest(g))
	}
}

// Promise 10, for orders and decompositions that need not be good ones.
func TestNoWidthBelowTheTreewidth(t *testing.T) {
	for _, o := range append(smallOrdered(), greatOrdered()...) {
		if len(o.g.Next) > impl.MaxWide {
			continue
		}
		least := impl.TreeWidth(o.g)
		if least < impl.DegeneracyOf(o.g) {
			t.Fatal("promise 7, the degeneracy", o.g.Next, least)
		}
		for i, order := range o.orders {
			if width := impl.OrderWidth(o.g, order); width < least {
				t.Fatalf("promise 10: %v %v has width %d, below the treewidth %d", o.g.Next, order, width, least)
			}
			if i%11 == 0 {
				d, _ := impl.DecompBy(o.g, order)
				wantNotBelow(t, o.g, d, least)
			}
		}
		for _, d := range decompsOf(o.g) {
			wantNotBelow(t, o.g, d, least)
		}
	}
}

// wantNotBelow fails if d is a tree decomposition of g that is of a width below least.
func wantNotBelow(t *testing.T, g impl.Graph, d impl.Decomp, least int64) {
	t.Helper()
	if impl.DecompOk(g, d) && impl.WidthOf(d) < least {
		t.Fatalf("promise 10: %v %v has width %d, below the treewidth %d", g.Next, d, impl.WidthOf(d), least)
	}
}

// Promise 10, for every choice of bags on up to three vertices, and of up to three bags on four.
// The bags stand in a row or around one of them: there are no other trees of so few.
func TestNoSmallDecompBelowTheTreewidth(t *testing.T) {
	for n := 1; n <= 4; n++ {
		for many := 1; many <= 3; many++ {
			all := bagLists(n, many)
			for _, links := range linkLists(many, many-1) {
				for _, g := range allGraphs(n) {
					least := impl.TreeWidth(g)
					for _, bags := range all {
						if longest(bags)-1 < least {
							wantNotBelow(t, g, decomp(bags, links...), least)
						}
					}
				}
			}
		}
	}
}

func TestKnownTreewidths(t *testing.T) {
	for n := 1; n <= impl.MaxWide; n++ {
		for name, c := range map[string]struct {
			g    impl.Graph
			want int
		}{
			"without edges":    {emptyGraph(n), 0},
			"complete":         {fullGraph(n), n - 1},
			"star":             {starGraph(n, 0), min(n-1, 1)},
			"other star":       {starGraph(n, n-1), min(n-1, 1)},
			"path":             {pathPower(n, 1), min(n-1, 1)},
			"tree":             {fromPairs(n, func(u, v int) bool { return (v-1)/2 == u }), min(n-1, 1)},
			"row":              {pathPower(n, 4), min(n-1, 4)},
			"ring":             {ringGraph(n, 1), min(n-1, 2)},
			"two sides":        {twoSidedGraph(n), n / 2},
			"one and a clique": {fromPairs(n, func(u, v int) bool { return u > 0 }), max(n-2, 0)},
			"pairs":            {manyParted(n, (n+1)/2), max(n-2, 0)},
			"wheel":            {wheelGraph(max(n, 4)), 3},
		} {
			if got := impl.TreeWidth(c.g); got != int64(c.want) {
				t.Errorf("%s of %d vertices: got %d, want %d", name, n, got, c.want)
			}
		}
	}
	for a := 1; a <= impl.MaxWide; a++ {
		for b := 1; a*b <= impl.MaxWide; b++ {
			if got, want := impl.TreeWidth(gridGraph(a, b)), int64(min(a, b, a*b-1)); got != want {
				t.Errorf("grid of %d and %d: got %d, want %d", a, b, got, want)
			}
		}
	}
	for _, c := range []struct {
		g    impl.Graph
		want int64
	}{{petersenGraph(), 4}, {cubeOf3(), 3}, {crossed(6), 3}, {crossed(8), 4}, {crossed(10), 4}, {squareAndPentagon(), 2}, {ringsOf(3, 3, 4), 2}, {ringGraph(10, 3), 2}, {ringGraph(10, 2), 2}, {hangingSquare(), 2}} {
		if got := impl.TreeWidth(c.g); got != c.want {
			t.Errorf("%v: got %d, want %d", c.g.Next, got, c.want)
		}
	}
}

// In these graphs neither of the greedy orders of chapter 7 has the treewidth as its width.
func TestTreewidthsBelowTheGreedyOrders(t *testing.T) {
	for _, c := range []struct{ seed, of, want int64 }{{159, 65, 5}, {1588, 50, 4}, {1741, 55, 4}} {
		g := diceWant(c.seed, 8, c.of)
		for _, order := range [][]int64{trueByDegree(g), trueByFill(g)} {
			if impl.TreeWidth(g) != c.want || longest(trueLater(g, order)) <= c.want {
				t.Errorf("%v: got %d, want %d, and the order %v is of width %d", g.Next, impl.TreeWidth(g), c.want, order, longest(trueLater(g, order)))
			}
		}
		wantThinnest(t, g, thinnestOf(g))
	}
}

func TestKnownBestOrders(t *testing.T) {
	for _, c := range []struct {
		name         string
		g            impl.Graph
		best, firsts []int64
	}{
		{"one vertex", emptyGraph(1), upTo(1), upTo(1)},
		{"no edges", emptyGraph(10), upTo(10), upTo(10)},
		{"complete", fullGraph(10), upTo(10), upTo(10)},
		{"star with centre 0", starGraph(4, 0), []int64{1, 2, 0, 3}, []int64{1, 2, 3}},
		{"star with centre 9", starGraph(10, 9), upTo(10), upTo(9)},
		{"one edge", fromEdges(3, [2]int{1, 2}), upTo(3), upTo(3)},
		{"path", pathPower(5, 1), upTo(5), []int64{0, 4}},
		{"path 2-0-1-3", fromEdges(4, [2]int{0, 2}, [2]int{0, 1}, [2]int{1, 3}), []int64{2, 0, 1, 3}, []int64{2, 3}},
		{"ring", ringGraph(10, 1), upTo(10), upTo(10)},
		// The centre has too many neighbours until two vertices of the loop are gone.
		{"wheel with centre 4", fromPairs(6, func(u, v int) bool { return u == 4 || v == 4 || v-u == 1 || u == 0 && v == 5 || u == 3 && v == 5 }), upTo(6), []int64{0, 1, 2, 3, 5}},
		// The centre has no more neighbours than a vertex of the clique, so that it may go first.
		{"star beside a clique", fromPairs(8, func(u, v int) bool { return u == 0 && v < 4 || u >= 4 }), upTo(8), upTo(8)},
		// Only the corners have no more neighbours than the treewidth.
		{"grid of 2 and 5", gridGraph(2, 5), []int64{0, 4, 5, 1, 6, 2, 7, 3, 8, 9}, []int64{0, 4, 5, 9}},
		// When 0 is gone, its neighbours 1, 2 and 4 have too many of them.
		{"cube", cubeOf3(), []int64{0, 3, 5, 1, 2, 4, 6, 7}, upTo(8)},
		{"path beside a clique", fromPairs(6, func(u, v int) bool { return u >= 3 || v < 3 && v-u == 1 }), upTo(6), upTo(6)},
	} {
		wantList(t, c.name+", BestOrder", impl.BestOrder(c.g), c.best...)
		wantList(t, c.name+", ThinnestFirst", impl.ThinnestFirst(c.g), c.firsts...)
		wantThinnest(t, c.g, searchedThinnest(c.g))
	}
}

func TestWidthsOfOneVertex(t *testing.T) {
	g := emptyGraph(1)
	wantThinnest(t, g, thinnest{0, upTo(1), upTo(1)})
	d, is := impl.BestDecomp(g)
	wantDecomp(t, "BestDecomp", d, is, wholeBag(1))
	wantList(t, "BehindOf", impl.BehindOf(g, nil, 0))
	if got := impl.WidthFrom(g, []int64{0}); got != 0 {
		t.Error("WidthFrom", got)
	}
}

func TestBestDecompsWithoutEdgesAndComplete(t *testing.T) {
	for n := 1; n <= impl.MaxWide; n++ {
		d, is := impl.BestDecomp(fullGraph(n))
		wantDecomp(t, "complete", d, is, wholeBag(n))
		singles := [][]int64{}
		for v := range int64(n) {
			singles = append(singles, []int64{v})
		}
		d, is = impl.BestDecomp(emptyGraph(n))
		wantDecomp(t, "no edges", d, is, decomp(singles, rowLinks(n)...))
	}
}

func TestGraphsThatAreTooWide(t *testing.T) {
	if impl.MaxWide != 10 {
		t.Error("MaxWide", impl.MaxWide)
	}
	for _, g := range tooWide() {
		wantNoWidth(t, fmt.Sprint(len(g.Next), " vertices"), g)
		n := len(g.Next)
		for _, gone := range someSubsets(n) {
			for v := range int64(n) {
				wantBehind(t, g, gone, v)
			}
		}
	}
	// One vertex less is not too many.
	for _, g := range []impl.Graph{emptyGraph(impl.MaxWide), fullGraph(impl.MaxWide), ringGraph(impl.MaxWide, 1)} {
		if impl.TreeWidth(g) < 0 || impl.WidthFrom(g, upTo(impl.MaxWide)) != 0 || len(impl.BestOrder(g)) != impl.MaxWide || len(impl.ThinnestFirst(g)) != impl.MaxWide {
			t.Error(impl.TreeWidth(g), impl.BestOrder(g), impl.ThinnestFirst(g))
		}
	}
}

func TestWidthsOfInvalidGraphs(t *testing.T) {
	for _, bad := range badGraphs() {
		wantNoWidth(t, bad.name, bad.g)
		for _, gone := range [][]int64{nil, {}, {0}, {2}, {0, 2, 3}, {4, 0}, upTo(len(bad.g.Next))} {
			for _, v := range append([]int64{0, 1, 2, 4, 5}, farVertices...) {
				wantList(t, bad.name+", BehindOf", impl.BehindOf(bad.g, gone, v))
			}
		}
	}
}

// wantBehind fails unless BehindOf returns what a search finds, or nothing if gone has v.
func wantBehind(t *testing.T, g impl.Graph, gone []int64, v int64) {
	t.Helper()
	want := []int64{}
	if !slices.Contains(gone, v) {
		want = trueBehind(g, gone, v)
	}
	if got := impl.BehindOf(g, gone, v); !slices.Equal(got, want) {
		t.Fatalf("BehindOf %v %v %d: got %v, want %v", g.Next, gone, v, got, want)
	}
}

func TestBehindOfEverySet(t *testing.T) {
	for _, g := range searchGraphs() {
		n := len(g.Next)
		for code := range 1 << n {
			for v := range int64(n) {
				wantBehind(t, g, subsetOf(n, code), v)
			}
		}
	}
	for _, g := range walkGraphs() {
		n := len(g.Next)
		if n > 6 {
			for _, gone := range someSubsets(n) {
				for v := range int64(n) {
					wantBehind(t, g, gone, v)
				}
			}
		}
	}
}

// wantEliminated fails unless BehindOf returns, for each vertex that is not in the list, its
// neighbours after those in the list were eliminated one by one.
func wantEliminated(t *testing.T, g impl.Graph, list []int64) {
	t.Helper()
	n := len(g.Next)
	m := tableOf(g)
	for i, v := range list {
		m.join(without(n, list[:i+1]), v)
	}
	set := slices.Sorted(slices.Values(list))
	left := without(n, list)
	for _, v := range left {
		want := slices.DeleteFunc(slices.Clone(left), func(u int64) bool { return !m[v][u] })
		if got := impl.BehindOf(g, set, v); !slices.Equal(got, want) {
			t.Fatalf("BehindOf %v %v %d: got %v, want %v after the order %v", g.Next, set, v, got, want, list)
		}
	}
}

func TestBehindOfAfterEliminationInAnyOrder(t *testing.T) {
	for n := 1; n <= 5; n++ {
		all := [][]int64{}
		for size := range n {
			all = append(all, allLists(n, size)...)
		}
		for _, g := range allGraphs(n) {
			for _, list := range all {
				wantEliminated(t, g, list)
			}
		}
	}
	for _, o := range greatOrdered() {
		for i, order := range o.orders {
			wantEliminated(t, o.g, order[:i%len(order)])
		}
	}
}

func TestWidthFromEverySet(t *testing.T) {
	for i, o := range smallOrdered() {
		n := len(o.g.Next)
		if n == 6 && i%5 != 0 {
			continue
		}
		for code, want := range trueWidthsFrom(o.g) {
			if got := impl.WidthFrom(o.g, subsetOf(n, code)); got != want {
				t.Fatalf("WidthFrom %v %v: got %d, want %d", o.g.Next, subsetOf(n, code), got, want)
			}
		}
	}
}

func TestWidthFromSomeSets(t *testing.T) {
	for _, g := range wideGraphs() {
		n := len(g.Next)
		for _, gone := range someSubsets(n) {
			m, left := tableOf(g), without(n, gone)
			for i, v := range gone {
				m.join(without(n, gone[:i+1]), v)
			}
			if got, want := impl.WidthFrom(g, gone), m.width(left); got != want {
				t.Fatalf("WidthFrom %v %v: got %d, want %d", g.Next, gone, got, want)
			}
		}
	}
}

// The width that is left may be greater than the treewidth, and smaller.
func TestKnownWidthsFrom(t *testing.T) {
	square := fromPairs(8, func(u, v int) bool { return v < 4 && (v-u == 1 || v-u == 3) || u >= 4 })
	for _, c := range []struct {
		name string
		g    impl.Graph
		gone []int64
		want int64
	}{
		{"the house without vertex 2", house(), []int64{2}, 2},
		{"the house without its roof", house(), []int64{4}, 2},
		{"the house without all but an edge", house(), []int64{0, 1, 4}, 1},
		{"a star from its centre", starGraph(10, 0), []int64{0}, 8},
		{"a star without a leaf", starGraph(10, 0), []int64{9}, 1},
		{"a star without all leaves", starGraph(10, 0), upTo(10)[1:], 0},
		{"a path without its middle", pathPower(5, 1), []int64{2}, 1},
		{"a clique without half of it", fullGraph(10), []int64{1, 3, 5, 7, 9}, 4},
		{"a square without the clique beside it", square, []int64{4, 5, 6, 7}, 2},
		{"a clique without the square beside it", square, []int64{0, 1, 2, 3}, 3},
		{"two sides without one of them", twoSidedGraph(10), upTo(5), 4},
	} {
		if got := impl.WidthFrom(c.g, c.gone); got != c.want {
			t.Errorf("%s: got %d, want %d", c.name, got, c.want)
		}
	}
}

// badSets returns lists that are no sets of n vertices.
func badSets(n int) map[string][]int64 {
	last := int64(n - 1)
	list := map[string][]int64{
		"the first vertex twice":      {0, 0},
		"the last vertex twice":       {last, last},
		"a vertex very often":         slices.Repeat([]int64{0}, 100000),
		"all and one more":            upTo(n + 1),
		"very many vertices":          upTo(100000),
		"all twice":                   append(upTo(n), upTo(n)...),
		"least and greatest":          {math.MinInt64, math.MaxInt64},
		"all between far numbers":     append(append([]int64{math.MinInt64}, upTo(n)...), math.MaxInt64),
		"all, the first one again":    append(upTo(n), 0),
		"all, the last one repeated":  append(upTo(n), last),
		"the first one, then all":     append([]int64{0}, upTo(n)...),
		"negative, then the vertices": append([]int64{-1}, upTo(n)...),
	}
	if n > 1 {
		down := upTo(n)
		slices.Reverse(down)
		list["descending"] = down
		list["two vertices, descending"] = []int64{last, 0}
		list["the last two exchanged"] = append(upTo(n)[:n-2], last, last-1)
	}
	for _, far := range append([]int64{int64(n), int64(n + 1), math.MaxInt64 - 1, math.MinInt64 + 1}, farVertices...) {
		if far < 0 || far >= int64(n) {
			list[fmt.Sprint(far, " only")] = []int64{far}
			list[fmt.Sprint(far, " after a vertex")] = []int64{0, far}
			list[fmt.Sprint(far, " before a vertex")] = []int64{far, last}
		}
	}
	return list
}

func TestListsThatAreNoSets(t *testing.T) {
	for _, g := range []impl.Graph{house(), emptyGraph(1), emptyGraph(2), fullGraph(3), emptyGraph(impl.MaxWide), fullGraph(impl.MaxWide), petersenGraph(), fullGraph(impl.MaxV)} {
		n := len(g.Next)
		for name, gone := range badSets(n) {
			if got := impl.WidthFrom(g, gone); got != -1 {
				t.Errorf("WidthFrom, %s of %d: %d", name, n, got)
			}
			for _, v := range append(upTo(n), farVertices...) {
				wantList(t, fmt.Sprint("BehindOf, ", name, " of ", n), impl.BehindOf(g, gone, v))
			}
		}
	}
}

func TestBehindOfNoVertex(t *testing.T) {
	for _, g := range []impl.Graph{house(), emptyGraph(1), fullGraph(3), petersenGraph(), emptyGraph(impl.MaxV - 1), fullGraph(impl.MaxV)} {
		n := len(g.Next)
		for _, gone := range [][]int64{nil, {}, {0}, {int64(n - 1)}, upTo(n)[:n-1], upTo(n)} {
			for _, v := range append([]int64{int64(n), int64(n + 1), math.MaxInt64 - 1, math.MinInt64 + 1}, farVertices...) {
				if v < 0 || v >= int64(n) {
					wantList(t, fmt.Sprint("BehindOf ", v), impl.BehindOf(g, gone, v))
				}
			}
			for _, v := range gone {
				wantList(t, fmt.Sprint("BehindOf, ", v, " is gone"), impl.BehindOf(g, gone, v))
			}
		}
	}
}

func TestEveryShortListAsASet(t *testing.T) {
	for n := 1; n <= 3; n++ {
		lists := [][]int64{}
		for length := range n + 2 {
			lists = append(lists, allSlices(length, -1, int64(n))...)
		}
		for _, g := range allGraphs(n) {
			widths := trueWidthsFrom(g)
			for _, gone := range lists {
				want := int64(-1)
				if isSet(n, gone) {
					code := 0
					for _, v := range gone {
						code |= 1 << v
					}
					want = widths[code]
				}
				if got := impl.WidthFrom(g, gone); got != want {
					t.Fatalf("WidthFrom %v %v: got %d, want %d", g.Next, gone, got, want)
				}
				for v := int64(-1); v <= int64(n); v++ {
					if isSet(n, gone) && v >= 0 && v < int64(n) {
						wantBehind(t, g, gone, v)
					} else {
						wantList(t, fmt.Sprint("BehindOf ", g.Next, gone, v), impl.BehindOf(g, gone, v))
					}
				}
			}
		}
	}
}

// widthCall is a call of one function of the chapter; its lists are all that the function returns.
type widthCall struct {
	name string
	call func(g impl.Graph, gone []int64, v int64) [][]int64
}

// widthCalls returns calls of every function of the chapter.
func widthCalls() []widthCall {
	return []widthCall{
		{"TreeWidth", func(g impl.Graph, _ []int64, _ int64) [][]int64 { return [][]int64{{impl.TreeWidth(g)}} }},
		{"WidthAtMost", func(g impl.Graph, _ []int64, v int64) [][]int64 { impl.WidthAtMost(g, v); return nil }},
		{"BestOrder", func(g impl.Graph, _ []int64, _ int64) [][]int64 { return [][]int64{impl.BestOrder(g)} }},
		{"BestDecomp", func(g impl.Graph, _ []int64, _ int64) [][]int64 {
			d, _ := impl.BestDecomp(g)
			return slices.Concat(d.Bags, d.Links)
		}},
		{"BehindOf", func(g impl.Graph, gone []int64, v int64) [][]int64 { return [][]int64{impl.BehindOf(g, gone, v)} }},
		{"WidthFrom", func(g impl.Graph, gone []int64, _ int64) [][]int64 { return [][]int64{{impl.WidthFrom(g, gone)}} }},
		{"ThinnestFirst", func(g impl.Graph, _ []int64, _ int64) [][]int64 { return [][]int64{impl.ThinnestFirst(g)} }},
	}
}

// Promise 35, for arguments that are not valid too: they are arguments like others.
func TestWidthArgumentsStay(t *testing.T) {
	all := append(someGraphs(), house(), petersenGraph(), cubeGraph())
	for _, bad := range badGraphs() {
		if len(bad.g.Next) <= impl.MaxV+1 {
			all = append(all, bad.g)
		}
	}
	for _, g := range all {
		n := len(g.Next)
		sets := [][]int64{{}, {0}, {0, 2}, {0, 2, 3}, {4, 0}, {1, 1}, {-1, 0, math.MaxInt64}, upTo(n), upTo(max(n-1, 0)), upTo(n + 1)}
		p, store := packedGraph(g)
		gone, goneStore := packed(sets)
		_, want := packed(sets)
		for i, set := range gone {
			for _, c := range widthCalls() {
				c.call(p, set, int64(i%3))
				intact(t, c.name, p, store, g)
				if !sameLists(gone, sets) || !slices.Equal(goneStore, want) {
					t.Fatal(c.name, "changed its set", goneStore)
				}
			}
		}
	}
}

// Promise 35: a result keeps its value when the arguments are overwritten, and the other way
// round; its slices are apart.
func TestWidthResultsAreNewMemory(t *testing.T) {
	for _, g := range append(someGraphs(), house(), petersenGraph(), ringGraph(9, 1)) {
		n := len(g.Next)
		for _, set := range [][]int64{{}, {0}, upTo(n - 1), upTo(n)} {
			for _, c := range widthCalls() {
				p, store := packedGraph(g)
				gone, goneStore := packed([][]int64{set})
				_, goneWant := packed([][]int64{set})
				v := int64(n - 1)
				got := c.call(p, gone[0], v)
				want := copied(got)
				apart(t, c.name, got)
				for _, list := range got {
					whole := list[:cap(list)]
					for i := range whole {
						whole[i] = guard
					}
				}
				intact(t, c.name, p, store, g)
				if !slices.Equal(goneStore, goneWant) {
					t.Fatal(c.name, "shares memory with its set", g.Next)
				}
				got = c.call(p, gone[0], v)
				for _, memory := range [][]int64{store, goneStore} {
					for i := range memory {
						memory[i] = guard
					}
				}
				clear(p.Next[:cap(p.Next)])
				if !sameLists(got, want) {
					t.Fatal(c.name, "shares memory with an argument", g.Next)
				}
			}
		}
	}
}

func TestWidthResultsOfTwoCallsAreApart(t *testing.T) {
	for _, g := range []impl.Graph{house(), emptyGraph(1), emptyGraph(impl.MaxWide), fullGraph(impl.MaxWide), petersenGraph(), starGraph(impl.MaxWide, 0), cubeGraph()} {
		for _, gone := range [][]int64{nil, {1}, {1, 2}} {
			for _, c := range widthCalls() {
				first := c.call(g, gone, 0)
				second := c.call(g, gone, 0)
				want := copied(first)
				if !sameLists(second, want) {
					t.Fatal(c.name, "returns something else the second time", first, second)
				}
				apart(t, c.name, slices.Concat(first, second))
				for _, row := range first {
					clear(row)
				}
				clear(first[:cap(first)])
				if third := c.call(g, gone, 0); !sameLists(second, want) || !sameLists(third, want) {
					t.Fatal(c.name, "keeps what it returned", second, third)
				}
			}
		}
	}
}
