package impl

import (
	"math/bits"
	"slices"
)

const MaxV = 16
const MaxSmall = 8
const MaxEdges = 120

type Graph struct {
	Next [][]int64
}

// mask is a set of vertices in the range 0 to MaxV-1: bit v stands for vertex v.
type mask uint32

// has reports whether v is in m; any int64 may be asked for.
func (m mask) has(v int64) bool {
	return isVertex(v, MaxV) && m>>v&1 == 1
}

// add ignores what is not a vertex, so that no shift can panic.
func (m *mask) add(v int64) {
	if isVertex(v, MaxV) {
		*m |= 1 << v
	}
}

// size returns the number of vertices in m.
func (m mask) size() int64 {
	return int64(bits.OnesCount32(uint32(m)))
}

// list returns the vertices in m in ascending order.
func (m mask) list() []int64 {
	out := make([]int64, 0, m.size())
	for v := range int64(MaxV) {
		if m.has(v) {
			out = append(out, v)
		}
	}
	return out
}

// net is a graph whose neighbour sets are masks. The masks from n on stay empty, so that two nets
// are equal as values exactly if their graphs are equal.
type net struct {
	n    int64
	next [MaxV]mask
}

// link makes the vertices u and v neighbours.
func (t *net) link(u int64, v int64) {
	t.next[u].add(v)
	t.next[v].add(u)
}

// simple reports whether no vertex is its own neighbour and all neighbours are mutual.
func (t *net) simple() bool {
	for v := range t.n {
		if t.next[v].has(v) {
			return false
		}
		for u := range v {
			if t.next[u].has(v) != t.next[v].has(u) {
				return false
			}
		}
	}
	return true
}

// graph returns t as a Graph of new memory.
func (t *net) graph() Graph {
	next := make([][]int64, t.n)
	for v := range next {
		next[v] = t.next[v].list()
	}
	return Graph{Next: next}
}

// netOf returns g with masks as its neighbour sets, and true; the zero net and false if g is not
// valid.
func netOf(g Graph) (net, bool) {
	n := int64(len(g.Next))
	if !sizeOk(n) {
		return net{}, false
	}
	t := net{n: n}
	for v, row := range g.Next {
		m, is := maskOf(row, n)
		if !is {
			return net{}, false
		}
		t.next[v] = m
	}
	if !t.simple() {
		return net{}, false
	}
	return t, true
}

// maskOf returns s as a mask, and true; 0 and false if s is not a strictly increasing slice of
// vertices of a graph with n vertices.
func maskOf(s []int64, n int64) (mask, bool) {
	var m mask
	last := int64(-1)
	for _, v := range s {
		if v <= last || v >= n {
			return 0, false
		}
		m.add(v)
		last = v
	}
	return m, true
}

// sizeOk reports whether a graph may have n vertices.
func sizeOk(n int64) bool {
	return 1 <= n && n <= MaxV
}

// isVertex reports whether v is a vertex of a graph with n vertices.
func isVertex(v int64, n int64) bool {
	return 0 <= v && v < n
}

// edgeOk reports whether e is two vertices of a graph with n vertices, the smaller one first.
func edgeOk(e []int64, n int64) bool {
	return len(e) == 2 && 0 <= e[0] && e[0] < e[1] && e[1] < n
}

// GraphOk reports whether g is valid.
func GraphOk(g Graph) bool {
	_, is := netOf(g)
	return is
}

// SameGraph reports whether a and b are valid and equal.
func SameGraph(a Graph, b Graph) bool {
	x, isA := netOf(a)
	y, isB := netOf(b)
	return isA && isB && x == y
}

// EdgeIn reports whether u and v are vertices of g and neighbours.
func EdgeIn(g Graph, u int64, v int64) bool {
	t, is := netOf(g)
	return is && isVertex(u, t.n) && t.next[u].has(v)
}

// EdgesOf returns all edges, sorted by the smaller vertex and then by the greater one.
func EdgesOf(g Graph) [][]int64 {
	t, is := netOf(g)
	if !is {
		return nil
	}
	edges := [][]int64{}
	for u := range t.n {
		for v := u + 1; v < t.n; v++ {
			if t.next[u].has(v) {
				edges = append(edges, []int64{u, v})
			}
		}
	}
	return edges
}

// ManyEdges returns the number of edges.
func ManyEdges(g Graph) int64 {
	t, _ := netOf(g)
	ends := int64(0)
	for _, m := range t.next {
		ends += m.size()
	}
	return ends / 2
}

// GraphOf returns the graph with n vertices and the given edges, and true. An edge may be listed
// more than once. It returns the zero Graph and false if n is not in the range 1 to MaxV, if
// there are more than MaxEdges (120) elements, or if an element is not a slice of two vertices in
// ascending order.
func GraphOf(n int64, edges [][]int64) (Graph, bool) {
	if !sizeOk(n) || len(edges) > MaxEdges {
		return Graph{}, false
	}
	t := net{n: n}
	for _, e := range edges {
		if !edgeOk(e, n) {
			return Graph{}, false
		}
		t.link(e[0], e[1])
	}
	return t.graph(), true
}

// SetOk reports whether s is a strictly increasing slice of vertices of g; it may be empty.
func SetOk(g Graph, s []int64) bool {
	t, is := netOf(g)
	if !is {
		return false
	}
	_, is = maskOf(s, t.n)
	return is
}

// OrderOk reports whether order is an order of g.
func OrderOk(g Graph, order []int64) bool {
	t, is := netOf(g)
	if !is || int64(len(order)) != t.n {
		return false
	}
	var seen mask
	for _, v := range order {
		if !isVertex(v, t.n) || seen.has(v) {
			return false
		}
		seen.add(v)
	}
	return true
}

// DegreesOf returns the numbers of neighbours of all vertices in ascending order.
func DegreesOf(g Graph) []int64 {
	t, is := netOf(g)
	if !is {
		return nil
	}
	degrees := make([]int64, t.n)
	for v := range degrees {
		degrees[v] = t.next[v].size()
	}
	slices.Sort(degrees)
	return degrees
}
