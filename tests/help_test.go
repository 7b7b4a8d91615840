package tests

import (
	"math"
	"slices"
	"testing"

	"loop.example/g00871/impl"
)

// house returns the graph of the specification's examples.
func house() impl.Graph {
	return impl.Graph{Next: [][]int64{{1, 3}, {0, 2}, {1, 3, 4}, {0, 2, 4}, {2, 3}}}
}

// emptyGraph returns n vertices without edges.
func emptyGraph(n int) impl.Graph {
	return impl.Graph{Next: make([][]int64, n)}
}

// fullGraph returns n vertices that are all neighbours of each other.
func fullGraph(n int) impl.Graph {
	return fromPairs(n, func(u, v int) bool { return true })
}

// fromPairs builds a graph without the program: near says which pairs u < v are neighbours.
func fromPairs(n int, near func(u, v int) bool) impl.Graph {
	g := emptyGraph(n)
	for v := range n {
		for u := range n {
			if u != v && near(min(u, v), max(u, v)) {
				g.Next[v] = append(g.Next[v], int64(u))
			}
		}
	}
	return g
}

// allPairs lists the pairs u < v of n vertices by u and then by v.
func allPairs(n int) [][]int64 {
	pairs := [][]int64{}
	for u := range n {
		for v := u + 1; v < n; v++ {
			pairs = append(pairs, []int64{int64(u), int64(v)})
		}
	}
	return pairs
}

// allGraphs returns every graph of n vertices.
func allGraphs(n int) []impl.Graph {
	list := []impl.Graph{}
	pairs := allPairs(n)
	for code := range 1 << len(pairs) {
		at := map[[2]int]bool{}
		for bit, p := range pairs {
			at[[2]int{int(p[0]), int(p[1])}] = code>>bit&1 == 1
		}
		list = append(list, fromPairs(n, func(u, v int) bool { return at[[2]int{u, v}] }))
	}
	return list
}

// someGraphs returns every graph of up to four vertices and, for each greater size up to MaxV,
// graphs of several densities whose edges follow a fixed rule.
func someGraphs() []impl.Graph {
	list := []impl.Graph{}
	for n := 1; n <= 4; n++ {
		list = append(list, allGraphs(n)...)
	}
	for n := 5; n <= impl.MaxV; n++ {
		list = append(list, emptyGraph(n), fullGraph(n))
		for k := 2; k <= 5; k++ {
			list = append(list, fromPairs(n, func(u, v int) bool { return (u*u*7+v*v*3+u*v)%k == 0 }))
			list = append(list, fromPairs(n, func(u, v int) bool { return v-u == k || v == n-1 && u == k }))
		}
	}
	return list
}

type badGraph struct {
	name string
	g    impl.Graph
}

// badGraphs returns graphs that are invalid, each for one reason.
func badGraphs() []badGraph {
	changed := func(v int, row ...int64) impl.Graph {
		g := house()
		g.Next[v] = row
		return g
	}
	twoSided := func(row0, row1 []int64) impl.Graph {
		return impl.Graph{Next: [][]int64{row0, row1}}
	}
	return []badGraph{
		{"zero Graph", impl.Graph{}},
		{"empty Next", impl.Graph{Next: [][]int64{}}},
		{"one vertex too many", emptyGraph(impl.MaxV + 1)},
		{"one vertex too many, full", fullGraph(impl.MaxV + 1)},
		{"very many vertices", emptyGraph(100000)},
		{"own neighbour", changed(0, 0, 1, 3)},
		{"own neighbour, last", changed(4, 2, 3, 4)},
		{"own neighbour of a single vertex", impl.Graph{Next: [][]int64{{0}}}},
		{"one side lacks a neighbour", changed(0, 1)},
		{"one side has one more", changed(0, 1, 2, 3)},
		{"a vertex lost all neighbours", changed(4)},
		{"one side only, smaller", twoSided([]int64{1}, nil)},
		{"one side only, greater", twoSided(nil, []int64{0})},
		{"descending neighbours", changed(0, 3, 1)},
		{"repeated neighbour", changed(0, 1, 1, 3)},
		{"repeated last neighbour", changed(0, 1, 3, 3)},
		{"neighbour n", changed(0, 1, 3, 5)},
		{"neighbour far out of range", changed(0, 1, 3, 67)},
		{"greatest number", changed(0, 1, 3, math.MaxInt64)},
		{"negative neighbour", changed(0, -1, 1, 3)},
		{"least number", changed(0, math.MinInt64, 1, 3)},
		{"neighbour 16 of a single vertex", impl.Graph{Next: [][]int64{{16}}}},
	}
}

func sameLists(a, b [][]int64) bool {
	return slices.EqualFunc(a, b, slices.Equal)
}

// copied returns lists with fresh memory, to compare with later.
func copied(lists [][]int64) [][]int64 {
	out := make([][]int64, len(lists))
	for i, l := range lists {
		out[i] = slices.Clone(l)
	}
	return out
}

const guard = -77

// packed returns lists as parts of one array, each followed by guard numbers that its capacity
// reaches, and that array.
func packed(lists [][]int64) ([][]int64, []int64) {
	size := 0
	for _, l := range lists {
		size += len(l) + 3
	}
	store := make([]int64, 0, size)
	out := make([][]int64, 0, len(lists)+2)
	for _, l := range lists {
		start := len(store)
		store = append(store, l...)
		out = append(out, store[start:])
		store = append(store, guard, guard, guard)
	}
	return out, store
}

// packedGraph returns g in packed rows. The rows beyond the end of Next, within its capacity,
// hold a guard too.
func packedGraph(g impl.Graph) (impl.Graph, []int64) {
	rows, store := packed(g.Next)
	wide := append(rows, []int64{guard}, []int64{guard})
	return impl.Graph{Next: wide[:len(rows)]}, store
}

// intact fails if the packed graph p, with its array store, is no longer g.
func intact(t *testing.T, name string, p impl.Graph, store []int64, g impl.Graph) {
	t.Helper()
	_, want := packed(g.Next)
	if !sameLists(p.Next, g.Next) || !slices.Equal(store, want) {
		t.Fatalf("%s changed its argument: %v %v", name, p.Next, store)
	}
	wide := p.Next[:len(g.Next)+2]
	for _, row := range wide[len(g.Next):] {
		if len(row) != 1 || row[0] != guard {
			t.Fatalf("%s wrote beyond Next: %v", name, wide)
		}
	}
}

// apart fails if writing one of the lists, up to its capacity, changes another one.
func apart(t *testing.T, name string, lists [][]int64) {
	t.Helper()
	for i := range lists {
		before := copied(lists)
		whole := lists[i][:cap(lists[i])]
		old := slices.Clone(whole)
		for j := range whole {
			whole[j] = guard
		}
		for j := range lists {
			if j != i && !slices.Equal(lists[j], before[j]) {
				t.Fatalf("%s: slices %d and %d share memory", name, i, j)
			}
		}
		copy(whole, old)
	}
}
