package tests

import (
	"fmt"
	"math"
	"slices"
	"testing"

	"loop.example/g00871/impl"
)

// listed is short for a slice of these slices.
func listed(all ...[]int64) [][]int64 {
	return all
}

// decomp is short for a Decomp with these bags and links.
func decomp(bags [][]int64, links ...[]int64) impl.Decomp {
	return impl.Decomp{Bags: bags, Links: links}
}

// tidyHouse returns the tidied decomposition of the specification's examples.
func tidyHouse() impl.Decomp {
	return decomp(listed([]int64{2, 3, 4}, []int64{0, 1, 3}, []int64{1, 2, 3}), []int64{0, 2}, []int64{1, 2})
}

// wholeBag returns a single bag of n vertices.
func wholeBag(n int) impl.Decomp {
	return decomp(listed(upTo(n)))
}

// rowLinks links each of n bags with the next one.
func rowLinks(n int) [][]int64 {
	out := [][]int64{}
	for i := 1; i < n; i++ {
		out = append(out, []int64{int64(i - 1), int64(i)})
	}
	return out
}

func copiedDecomp(d impl.Decomp) impl.Decomp {
	return impl.Decomp{Bags: copied(d.Bags), Links: copied(d.Links)}
}

func sameDecomp(a, b impl.Decomp) bool {
	return sameLists(a.Bags, b.Bags) && sameLists(a.Links, b.Links)
}

// wantDecomp fails unless a function returned this Decomp, and true.
func wantDecomp(t *testing.T, name string, got impl.Decomp, is bool, want impl.Decomp) {
	t.Helper()
	if !is || !sameDecomp(got, want) {
		t.Fatalf("%s: got %v %v, want %v", name, got, is, want)
	}
}

// wantNoDecomp fails unless a function returned the zero Decomp, and false.
func wantNoDecomp(t *testing.T, name string, got impl.Decomp, is bool) {
	t.Helper()
	if is || len(got.Bags) != 0 || len(got.Links) != 0 {
		t.Fatalf("%s: got %v %v, want the zero Decomp and false", name, got, is)
	}
}

// wantMeets fails unless MeetsOf returns these slices.
func wantMeets(t *testing.T, name string, d impl.Decomp, want [][]int64) {
	t.Helper()
	if got := impl.MeetsOf(d); !sameLists(got, want) {
		t.Fatalf("%s, MeetsOf %v: got %v, want %v", name, d, got, want)
	}
}

// wantRefused fails unless the functions of a graph and a decomposition refuse these two.
func wantRefused(t *testing.T, name string, g impl.Graph, d impl.Decomp) {
	t.Helper()
	if impl.DecompOk(g, d) {
		t.Fatalf("%s: DecompOk %v %v", name, g.Next, d)
	}
	tidied, is := impl.TidiedDecomp(g, d)
	wantNoDecomp(t, name+", TidiedDecomp", tidied, is)
	wantList(t, name+", OrderBy", impl.OrderBy(g, d))
}

// isPart says whether all elements of a are in b.
func isPart(a, b []int64) bool {
	return !slices.ContainsFunc(a, func(v int64) bool { return !slices.Contains(b, v) })
}

// wayFrom returns the bags on a way from a to b over links that are not in used, or nil.
func wayFrom(links [][]int64, used []int, a, b int64) []int64 {
	if a == b {
		return []int64{a}
	}
	for i, l := range links {
		if slices.Contains(used, i) || a != l[0] && a != l[1] {
			continue
		}
		way := wayFrom(links, append(slices.Clone(used), i), l[0]+l[1]-a, b)
		if way != nil {
			return append([]int64{a}, way...)
		}
	}
	return nil
}

// isTree says whether the links connect n bags, and none of them could be spared.
func isTree(n int, links [][]int64) bool {
	if len(links) != n-1 {
		return false
	}
	for _, l := range links {
		if !isLink(n, l) {
			return false
		}
	}
	for b := range int64(n) {
		if wayFrom(links, nil, 0, b) == nil {
			return false
		}
	}
	return true
}

// isLink says whether l is two numbers of n bags, the smaller one first.
func isLink(n int, l []int64) bool {
	return len(l) == 2 && l[0] >= 0 && l[0] < l[1] && l[1] < int64(n)
}

// isDecomp says whether d is a tree decomposition of the valid graph g, by the specification's
// definition: each two bags are looked at, with all bags on the way between them.
func isDecomp(g impl.Graph, d impl.Decomp) bool {
	n := len(g.Next)
	if len(d.Bags) < 1 || len(d.Bags) > impl.MaxV || !isTree(len(d.Bags), d.Links) {
		return false
	}
	for _, b := range d.Bags {
		if !isSet(n, b) {
			return false
		}
	}
	for u := range int64(n) {
		for v := range int64(n) {
			together := func(b []int64) bool { return slices.Contains(b, u) && slices.Contains(b, v) }
			if (u == v || near(g, int(u), int(v))) && !slices.ContainsFunc(d.Bags, together) {
				return false
			}
		}
	}
	for b := range int64(len(d.Bags)) {
		for a := range b {
			if !waysHold(d, a, b) {
				return false
			}
		}
	}
	return true
}

// waysHold says whether all bags on the way from a to b hold what both of them hold.
func waysHold(d impl.Decomp, a, b int64) bool {
	for _, on := range wayFrom(d.Links, nil, a, b) {
		for _, v := range d.Bags[a] {
			if slices.Contains(d.Bags[b], v) && !slices.Contains(d.Bags[on], v) {
				return false
			}
		}
	}
	return true
}

// trueWidth returns the size of the largest bag minus 1.
func trueWidth(d impl.Decomp) int64 {
	return longest(d.Bags) - 1
}

// trueDecompBy returns the decomposition of an order, from later sets that are found by paths.
func trueDecompBy(g impl.Graph, order []int64) impl.Decomp {
	later := trueLater(g, order)
	d := impl.Decomp{}
	for i, v := range order {
		b := append([]int64{v}, later[v]...)
		slices.Sort(b)
		d.Bags = append(d.Bags, b)
		to := i + 1
		for j := len(order) - 1; j > i; j-- {
			if slices.Contains(later[v], order[j]) {
				to = j
			}
		}
		if to < len(order) {
			d.Links = append(d.Links, []int64{int64(i), int64(to)})
		}
	}
	return d
}

// trueDropped returns d without the bag gone, whose links become links of the bag kept.
func trueDropped(d impl.Decomp, gone, kept int64) impl.Decomp {
	number := func(b int64) int64 {
		if b == gone {
			b = kept
		}
		if b > gone {
			b--
		}
		return b
	}
	out := impl.Decomp{}
	for i, b := range d.Bags {
		if int64(i) != gone {
			out.Bags = append(out.Bags, b)
		}
	}
	for _, l := range d.Links {
		a, b := number(l[0]), number(l[1])
		if a != b {
			out.Links = append(out.Links, []int64{min(a, b), max(a, b)})
		}
	}
	return out
}

// trueTidied removes bags one after the other, as the specification describes it.
func trueTidied(d impl.Decomp) impl.Decomp {
	d = copiedDecomp(d)
	for {
		slices.SortFunc(d.Links, slices.Compare)
		at := slices.IndexFunc(d.Links, func(l []int64) bool {
			return isPart(d.Bags[l[0]], d.Bags[l[1]]) || isPart(d.Bags[l[1]], d.Bags[l[0]])
		})
		if at < 0 {
			return d
		}
		small, great := d.Links[at][0], d.Links[at][1]
		if isPart(d.Bags[great], d.Bags[small]) {
			d = trueDropped(d, great, small)
		} else {
			d = trueDropped(d, small, great)
		}
	}
}

// trueOrderBy always eliminates the smallest vertex that is in a bag with what is left of its
// neighbours.
func trueOrderBy(g impl.Graph, d impl.Decomp) []int64 {
	m, left, order := tableOf(g), upTo(len(g.Next)), []int64{}
	for len(left) > 0 {
		at := slices.IndexFunc(left, func(v int64) bool {
			all := []int64{v}
			for _, u := range left {
				if m[v][u] {
					all = append(all, u)
				}
			}
			return slices.ContainsFunc(d.Bags, func(b []int64) bool { return isPart(all, b) })
		})
		v := left[at]
		left = slices.Delete(left, at, at+1)
		m.join(left, v)
		order = append(order, v)
	}
	return order
}

// trueMeet returns the elements of a that b contains, as they stand in a.
func trueMeet(a, b []int64) []int64 {
	out := []int64{}
	for _, v := range a {
		if slices.Contains(b, v) {
			out = append(out, v)
		}
	}
	return out
}

// trueTree returns the links of a clique tree with these bags: each bag starts as a part of its
// own, and a pair of different parts is linked.
func trueTree(bags [][]int64) [][]int64 {
	links := [][]int64{}
	part := upTo(len(bags))
	for common := impl.MaxV; common >= 0; common-- {
		for _, p := range allPairs(len(bags)) {
			from, to := part[p[1]], part[p[0]]
			if len(trueMeet(bags[p[0]], bags[p[1]])) != common || from == to {
				continue
			}
			links = append(links, p)
			for i := range part {
				if part[i] == from {
					part[i] = to
				}
			}
		}
	}
	slices.SortFunc(links, slices.Compare)
	return links
}

// turned returns d with other numbers: the bag order[i] becomes bag i. Its links stand in the
// opposite of their order.
func turned(d impl.Decomp, order []int64) impl.Decomp {
	out := impl.Decomp{}
	for _, b := range order {
		out.Bags = append(out.Bags, slices.Clone(d.Bags[b]))
	}
	for _, l := range slices.Backward(d.Links) {
		a, b := int64(slices.Index(order, l[0])), int64(slices.Index(order, l[1]))
		out.Links = append(out.Links, []int64{min(a, b), max(a, b)})
	}
	return out
}

// fattened returns d with v in every bag.
func fattened(d impl.Decomp, v int64) impl.Decomp {
	out := copiedDecomp(d)
	for i, b := range out.Bags {
		if !slices.Contains(b, v) {
			out.Bags[i] = append(b, v)
			slices.Sort(out.Bags[i])
		}
	}
	return out
}

// doubled returns d with the bags twice: the bag i+len(d.Bags) is linked with bag i only.
func doubled(d impl.Decomp) impl.Decomp {
	out := copiedDecomp(d)
	many := int64(len(d.Bags))
	for i := range many {
		out.Bags = append(out.Bags, slices.Clone(d.Bags[i]))
		out.Links = append(out.Links, []int64{i, i + many})
	}
	return out
}

// decompsOf returns tree decompositions of g of different kinds.
func decompsOf(g impl.Graph) []impl.Decomp {
	n := len(g.Next)
	list := []impl.Decomp{wholeBag(n), decomp(listed(nil, upTo(n), []int64{}), []int64{1, 2}, []int64{0, 1})}
	down := upTo(n)
	slices.Reverse(down)
	orders := someOrders(n)
	for _, order := range [][]int64{upTo(n), down, trueByFill(g), orders[len(orders)/2]} {
		d := trueDecompBy(g, order)
		list = append(list, d, turned(d, down), turned(d, orders[len(orders)/3]), fattened(d, int64(n/2)), trueTidied(d))
		if tidy := trueTidied(d); len(tidy.Bags) <= impl.MaxV/2 {
			list = append(list, doubled(tidy), turned(doubled(tidy), someOrders(2 * len(tidy.Bags))[1]))
		}
	}
	return list
}

// wantAnswers fails unless the functions of a tree decomposition of g answer as the chapter says.
func wantAnswers(t *testing.T, g impl.Graph, d impl.Decomp) {
	t.Helper()
	if !impl.DecompOk(g, d) || impl.WidthOf(d) != trueWidth(d) {
		t.Fatal("DecompOk or WidthOf", g.Next, d, impl.WidthOf(d))
	}
	tidied, is := impl.TidiedDecomp(g, d)
	if want := trueTidied(d); !is || !sameDecomp(tidied, want) {
		t.Fatal("TidiedDecomp", g.Next, d, tidied, is, want)
	}
	if !impl.DecompOk(g, tidied) || impl.WidthOf(tidied) != impl.WidthOf(d) {
		t.Fatal("the tidied decomposition has another width", g.Next, d, tidied)
	}
	for _, l := range tidied.Links {
		if isPart(tidied.Bags[l[0]], tidied.Bags[l[1]]) || isPart(tidied.Bags[l[1]], tidied.Bags[l[0]]) {
			t.Fatal("the tidied decomposition has a redundant bag", g.Next, d, tidied)
		}
	}
	if again, is := impl.TidiedDecomp(g, tidied); !is || !sameDecomp(again, tidied) {
		t.Fatal("TidiedDecomp again", g.Next, tidied, again, is)
	}
	wantOrderBy(t, g, d)
}

// wantOrderBy fails unless OrderBy returns the order that the chapter describes, which is of at
// most the width of d.
func wantOrderBy(t *testing.T, g impl.Graph, d impl.Decomp) {
	t.Helper()
	order := impl.OrderBy(g, d)
	if want := trueOrderBy(g, d); !slices.Equal(order, want) {
		t.Fatal("OrderBy", g.Next, d, order, want)
	}
	if !isOrder(len(g.Next), order) || impl.OrderWidth(g, order) > impl.WidthOf(d) {
		t.Fatal("promise 9, a decomposition yields no order of at most its width", g.Next, d, order)
	}
}

// searchedAndGreat returns every graph of up to five vertices, a choice of those of six, and some of
// every greater size up to MaxV.
func searchedAndGreat() []impl.Graph {
	list := slices.Concat(searchGraphs(), chordalGraphs(), loopedGraphs())
	for _, g := range walkGraphs() {
		if len(g.Next) > 6 {
			list = append(list, g)
		}
	}
	return list
}

func TestDecompExamples(t *testing.T) {
	g := house()
	if d := wholeBag(5); !impl.DecompOk(g, d) || impl.WidthOf(d) != 4 {
		t.Error("DecompOk or WidthOf")
	}
	d, is := impl.DecompBy(g, []int64{4, 0, 1, 2, 3})
	bags := listed([]int64{2, 3, 4}, []int64{0, 1, 3}, []int64{1, 2, 3}, []int64{2, 3}, []int64{3})
	wantDecomp(t, "DecompBy", d, is, decomp(bags, []int64{0, 3}, []int64{1, 2}, []int64{2, 3}, []int64{3, 4}))
	tidied, is := impl.TidiedDecomp(g, d)
	wantDecomp(t, "TidiedDecomp", tidied, is, tidyHouse())
	wantList(t, "OrderBy", impl.OrderBy(g, tidied), 0, 1, 2, 3, 4)
	f := fromPairs(5, func(u, v int) bool { return near(g, u, v) || u == 1 && v == 3 })
	tree, is := impl.CliqueTree(f)
	bags = listed([]int64{0, 1, 3}, []int64{1, 2, 3}, []int64{2, 3, 4})
	wantDecomp(t, "CliqueTree", tree, is, decomp(bags, []int64{0, 1}, []int64{1, 2}))
	if !impl.WaysIn(tidied) || impl.WaysIn(impl.Decomp{}) {
		t.Error("WaysIn")
	}
	wantMeets(t, "the tidied decomposition", tidied, listed([]int64{2, 3}, []int64{1, 3}))
}

// Promise 9.
func TestDecompsOfOrders(t *testing.T) {
	for _, o := range append(smallOrdered(), greatOrdered()...) {
		for _, order := range o.orders {
			d, is := impl.DecompBy(o.g, order)
			if want := trueDecompBy(o.g, order); !is || !sameDecomp(d, want) {
				t.Fatal("DecompBy", o.g.Next, order, d, is, want)
			}
			if width := impl.OrderWidth(o.g, order); impl.WidthOf(d) != width || trueWidth(d) != width {
				t.Fatal("promise 9, the width of an order", o.g.Next, order, width, d)
			}
			wantAnswers(t, o.g, d)
		}
	}
}

// Promise 9.
func TestOrdersOfDecomps(t *testing.T) {
	for _, g := range searchedAndGreat() {
		for _, d := range decompsOf(g) {
			wantAnswers(t, g, d)
		}
	}
}

// linkLists returns all lists of that many links between n bags.
func linkLists(n, many int) [][][]int64 {
	out := [][][]int64{{}}
	for range many {
		longer := [][][]int64{}
		for _, list := range out {
			for _, p := range allPairs(n) {
				longer = append(longer, append(slices.Clone(list), p))
			}
		}
		out = longer
	}
	return out
}

// bagLists returns all lists of that many sets of n vertices.
func bagLists(n, many int) [][][]int64 {
	out := [][][]int64{}
	for code := range 1 << (n * many) {
		bags := [][]int64{}
		for i := range many {
			bags = append(bags, subsetOf(n, code>>(n*i)))
		}
		out = append(out, bags)
	}
	return out
}

// wantAsDefined fails unless d is accepted exactly if it is a tree decomposition of g.
func wantAsDefined(t *testing.T, g impl.Graph, d impl.Decomp) {
	t.Helper()
	if isDecomp(g, d) {
		wantAnswers(t, g, d)
	} else {
		wantRefused(t, "no tree decomposition", g, d)
	}
}

// Every choice of bags and links, for graphs of up to three vertices and some of four.
func TestDecompOkOfEverySmallDecomp(t *testing.T) {
	some := []impl.Graph{ringGraph(4, 1), fullGraph(4), pathPower(4, 1), starGraph(4, 2), emptyGraph(4)}
	for _, c := range []struct {
		graphs     []impl.Graph
		most, more int
	}{{allGraphs(1), 4, 1}, {allGraphs(2), 4, 0}, {allGraphs(3), 3, 0}, {some, 2, 1}, {some[:3], 3, 0}} {
		for _, g := range c.graphs {
			for many := 1; many <= c.most; many++ {
				all := bagLists(len(g.Next), many)
				for size := range many + c.more {
					for _, links := range linkLists(many, size) {
						for _, bags := range all {
							wantAsDefined(t, g, decomp(bags, links...))
						}
					}
				}
			}
		}
	}
}

// The decompositions of greater graphs are accepted; without one vertex in one bag, with one more,
// and with one link less or another one they are what the definition says.
func TestDecompOkOfChangedDecomps(t *testing.T) {
	for _, g := range []impl.Graph{house(), cubeGraph(), petersenGraph(), ringGraph(9, 1), pathPower(10, 2), starGraph(7, 3), emptyGraph(6), fullGraph(5), twoSidedGraph(8)} {
		for _, d := range decompsOf(g) {
			if !isDecomp(g, d) {
				t.Fatal("the test's own decomposition", g.Next, d)
			}
			for i, b := range d.Bags {
				for v := range int64(len(g.Next)) {
					changed := copiedDecomp(d)
					if at := slices.Index(b, v); at >= 0 {
						changed.Bags[i] = slices.Delete(changed.Bags[i], at, at+1)
					} else {
						changed = fattened(decomp([][]int64{b}), v)
						changed = impl.Decomp{Bags: slices.Concat(d.Bags[:i], changed.Bags, d.Bags[i+1:]), Links: d.Links}
					}
					if impl.DecompOk(g, changed) != isDecomp(g, changed) {
						t.Fatal("one bag changed", g.Next, changed)
					}
				}
			}
			for i := range d.Links {
				less := impl.Decomp{Bags: d.Bags, Links: slices.Delete(copied(d.Links), i, i+1)}
				wantRefused(t, "one link less", g, less)
				for _, p := range allPairs(len(d.Bags)) {
					changed := copiedDecomp(d)
					changed.Links[i] = p
					if impl.DecompOk(g, changed) != isDecomp(g, changed) {
						t.Fatal("one link changed", g.Next, changed)
					}
				}
			}
		}
	}
}

// wantWays fails unless WaysIn and MeetsOf return what follows from counting and comparing.
func wantWays(t *testing.T, d impl.Decomp) {
	t.Helper()
	right := len(d.Bags) >= 1 && len(d.Bags) <= impl.MaxV && len(d.Links) <= impl.MaxV
	for _, l := range d.Links {
		right = right && isLink(len(d.Bags), l)
	}
	if !right {
		if impl.WaysIn(d) {
			t.Fatal("WaysIn", d)
		}
		wantMeets(t, "no links", d, nil)
		return
	}
	most, meets := 0, [][]int64{}
	for b := range int64(len(d.Bags)) {
		many := 0
		for _, l := range d.Links {
			if l[0] == b || l[1] == b {
				many++
			}
		}
		most = max(most, many)
	}
	for _, l := range d.Links {
		meets = append(meets, trueMeet(d.Bags[l[0]], d.Bags[l[1]]))
	}
	if impl.WaysIn(d) != (most <= 2) {
		t.Fatal("WaysIn", d, most)
	}
	wantMeets(t, "counted", d, meets)
}

// These decompositions belong to no graph: links make loops, stand there twice or are missing.
func TestWaysOfEveryList(t *testing.T) {
	ends := append(allSlices(2, -1, 3), nil, []int64{0}, []int64{0, 1, 2})
	for bags := 0; bags <= 3; bags++ {
		all := make([][]int64, bags)
		for i := range all {
			all[i] = []int64{int64(7 * i), 3, int64(-i), 3}
		}
		wantWays(t, decomp(all))
		for _, a := range ends {
			wantWays(t, decomp(all, a))
			for _, b := range ends {
				wantWays(t, decomp(all, a, b))
				for _, c := range ends {
					wantWays(t, decomp(all, a, b, c))
				}
			}
		}
	}
	for many := range 5 {
		for _, links := range linkLists(5, many) {
			wantWays(t, decomp(make([][]int64, 5), links...))
		}
	}
}

func TestMeetsOfEveryTwoBags(t *testing.T) {
	bags := [][]int64{nil, {math.MaxInt64, math.MinInt64, -1, math.MaxInt64, 0}, {16, 64, 16, math.MinInt64}, {-1, -1, -1}, {math.MaxInt64 - 1, 1 << 32}}
	for length := range 4 {
		bags = append(bags, allSlices(length, -1, 2)...)
	}
	for _, a := range bags {
		for _, b := range bags {
			wantMeets(t, "two bags", decomp(listed(a, b), []int64{0, 1}), [][]int64{trueMeet(a, b)})
			wantMeets(t, "three bags", decomp(listed(b, a, b), []int64{1, 2}, []int64{0, 1}, []int64{1, 2}), [][]int64{trueMeet(a, b), trueMeet(b, a), trueMeet(a, b)})
		}
	}
}

func TestMeetsKeepOrderAndRepetitions(t *testing.T) {
	d := decomp(listed([]int64{5, 2, 5, 9, 2, -4}, []int64{2, 5, 2}, []int64{9, math.MinInt64, -4}), []int64{0, 1}, []int64{0, 2}, []int64{1, 2}, []int64{0, 1})
	wantMeets(t, "repetitions", d, listed([]int64{5, 2, 5, 2}, []int64{9, -4}, []int64{}, []int64{5, 2, 5, 2}))
	long := upTo(100000)
	back := slices.Clone(long)
	slices.Reverse(back)
	wantMeets(t, "very long bags", decomp(listed(long, back), []int64{0, 1}), listed(long))
	wantMeets(t, "very long bags, turned", decomp(listed(back, long), []int64{0, 1}), listed(back))
}

// badLinks returns slices that are no link of three bags.
func badLinks() map[string][]int64 {
	list := map[string][]int64{
		"nil":                  nil,
		"empty":                {},
		"one bag":              {0},
		"three bags":           {0, 1, 2},
		"the second bag again": {0, 2, 2},
		"very long":            slices.Repeat([]int64{0, 2}, 100000),
		"descending":           {2, 0},
		"descending, next":     {1, 0},
		"equal":                {0, 0},
		"equal, last":          {2, 2},
		"both beyond":          {3, 4},
		"both negative":        {-2, -1},
		"least and greatest":   {math.MinInt64, math.MaxInt64},
		"greatest and least":   {math.MaxInt64, math.MinInt64},
		"greatest twice":       {math.MaxInt64, math.MaxInt64},
		"least twice":          {math.MinInt64, math.MinInt64},
	}
	for _, far := range append([]int64{3, 4, 1<<32 + 2, math.MaxInt64 - 1, math.MinInt64 + 1}, farVertices...) {
		list[fmt.Sprint(far, " first")] = []int64{far, 2}
		list[fmt.Sprint(far, " second")] = []int64{0, far}
	}
	return list
}

func TestLinksThatAreNone(t *testing.T) {
	whole := decomp(listed(upTo(5), upTo(5), upTo(5)), []int64{0, 2}, []int64{1, 2})
	for _, right := range []impl.Decomp{tidyHouse(), whole} {
		wantAnswers(t, house(), right)
		wantWays(t, right)
		for name, link := range badLinks() {
			for at := range right.Links {
				d := copiedDecomp(right)
				d.Links[at] = link
				wantRefused(t, name, house(), d)
				wantWays(t, d)
				if impl.WaysIn(d) || impl.MeetsOf(d) != nil || impl.WidthOf(d) != impl.WidthOf(right) {
					t.Error(name, "WaysIn, MeetsOf or WidthOf")
				}
				d = copiedDecomp(right)
				d.Links = append(d.Links, link)
				wantRefused(t, name+", one more", house(), d)
				wantWays(t, d)
			}
			single := decomp(listed(upTo(5)), link)
			wantRefused(t, name+", a single bag", house(), single)
			wantWays(t, single)
		}
	}
}

// The links are right one by one. A bag that is apart is empty here, or all bags are equal, so that
// no vertex is missing on a way.
func TestLinksThatAreNoTree(t *testing.T) {
	all := upTo(5)
	for _, c := range []struct {
		name string
		d    impl.Decomp
		ways bool
	}{
		{"no links", decomp(listed(all, nil)), true},
		{"a bag apart", decomp(listed(all, all, nil), []int64{0, 1}), true},
		{"a bag apart, a link twice", decomp(listed(all, all, nil), []int64{0, 1}, []int64{0, 1}), true},
		{"a bag apart, a loop", decomp(listed(all, all, all, nil), []int64{0, 1}, []int64{0, 2}, []int64{1, 2}), true},
		{"the first bag apart, a loop", decomp(listed(nil, all, all, all), []int64{2, 3}, []int64{1, 3}, []int64{1, 2}), true},
		{"two loops", decomp(listed(all, all, all, nil, nil, nil, nil), []int64{0, 1}, []int64{0, 2}, []int64{1, 2}, []int64{3, 4}, []int64{4, 5}, []int64{5, 6}), true},
		{"one loop", decomp(listed(all, all, all), []int64{0, 1}, []int64{1, 2}, []int64{0, 2}), true},
		{"a link twice", decomp(listed(all, all), []int64{0, 1}, []int64{0, 1}), true},
		{"a link three times", decomp(listed(all, all), []int64{0, 1}, []int64{0, 1}, []int64{0, 1}), false},
		{"three links of one bag", decomp(listed(all, all, all, all, nil), []int64{0, 1}, []int64{0, 2}, []int64{0, 3}), false},
		{"a link of a single bag", decomp(listed(all), []int64{0, 1}), false},
	} {
		wantRefused(t, c.name, house(), c.d)
		wantWays(t, c.d)
		if impl.WaysIn(c.d) != c.ways || impl.WidthOf(c.d) != 4 {
			t.Error(c.name, "WaysIn or WidthOf")
		}
	}
}

func TestBagsThatAreNoSets(t *testing.T) {
	bad := map[string][]int64{
		"descending":               {4, 3, 2, 1, 0},
		"two exchanged":            {0, 1, 3, 2, 4},
		"a vertex twice":           {0, 1, 2, 2, 3, 4},
		"the last vertex twice":    {0, 1, 2, 3, 4, 4},
		"the first vertex again":   {0, 1, 2, 3, 4, 0},
		"no vertex":                {0, 1, 2, 3, 4, 5},
		"very long":                upTo(100000),
		"very long, two exchanged": append([]int64{1, 0}, upTo(100000)[2:]...),
		"least, greatest":          {math.MinInt64, 0, 1, 2, 3, 4, math.MaxInt64},
		"greatest number in front": {math.MaxInt64, 0, 1, 2, 3, 4},
		"least number at the end":  {0, 1, 2, 3, 4, math.MinInt64},
		"a vertex very often":      slices.Repeat([]int64{0}, 100000),
	}
	for _, far := range append([]int64{5, 6, math.MaxInt64 - 1, math.MinInt64 + 1}, farVertices...) {
		bad[fmt.Sprint(far, " added")] = []int64{0, 1, 2, 3, 4, far}
		bad[fmt.Sprint(far, " in front")] = []int64{far, 0, 1, 2, 3, 4}
		bad[fmt.Sprint(far, " only")] = []int64{far}
	}
	for name, b := range bad {
		wantRefused(t, name, house(), decomp(listed(b)))
		first := decomp(listed(b, upTo(5)), []int64{0, 1})
		second := decomp(listed(upTo(5), b), []int64{0, 1})
		for _, d := range []impl.Decomp{first, second} {
			wantRefused(t, name+", two bags", house(), d)
			wantWays(t, d)
			if !impl.WaysIn(d) || impl.WidthOf(d) != int64(max(len(b), 5))-1 {
				t.Error(name, "WaysIn or WidthOf", impl.WidthOf(d))
			}
		}
		for at := range tidyHouse().Bags {
			d := tidyHouse()
			d.Bags[at] = b
			wantRefused(t, name+", three bags", house(), d)
		}
	}
}

func TestVerticesAndEdgesThatAreInNoBag(t *testing.T) {
	path := pathPower(3, 1)
	for _, c := range []struct {
		name string
		g    impl.Graph
		d    impl.Decomp
		is   bool
	}{
		{"a nil bag", emptyGraph(1), decomp(listed(nil)), false},
		{"an empty bag", emptyGraph(1), decomp(listed([]int64{})), false},
		{"an empty bag more", emptyGraph(1), decomp(listed([]int64{}, []int64{0}), []int64{0, 1}), true},
		{"an empty bag between", emptyGraph(2), decomp(listed([]int64{0}, nil, []int64{1}), []int64{0, 1}, []int64{1, 2}), true},
		{"an empty bag between the bags of a vertex", emptyGraph(1), decomp(listed([]int64{0}, nil, []int64{0}), []int64{0, 1}, []int64{1, 2}), false},
		{"the last vertex in no bag", emptyGraph(3), decomp(listed([]int64{0}, []int64{1}), []int64{0, 1}), false},
		{"the first vertex in no bag", path, decomp(listed([]int64{1, 2})), false},
		{"a vertex without edges in no bag", fromEdges(3, [2]int{0, 1}), decomp(listed([]int64{0, 1})), false},
		{"an edge in no bag", fullGraph(2), decomp(listed([]int64{0}, []int64{1}), []int64{0, 1}), false},
		{"one edge of two in no bag", path, decomp(listed([]int64{0, 1}, []int64{2}), []int64{0, 1}), false},
		{"one edge of three in no bag", fullGraph(3), decomp(listed([]int64{0, 1}, []int64{1, 2}), []int64{0, 1}), false},
		{"each edge in a bag", path, decomp(listed([]int64{0, 1}, []int64{1, 2}), []int64{0, 1}), true},
		{"a vertex not in the bag between", emptyGraph(3), decomp(listed([]int64{0}, []int64{1}, []int64{0, 2}), []int64{0, 1}, []int64{1, 2}), false},
		{"a vertex in two linked bags", emptyGraph(3), decomp(listed([]int64{0}, []int64{1}, []int64{0, 2}), []int64{0, 2}, []int64{1, 2}), true},
		{"a vertex not in one of two bags between", fullGraph(2), decomp(listed([]int64{0, 1}, []int64{0, 1}, []int64{1}, []int64{0, 1}), []int64{0, 1}, []int64{1, 2}, []int64{2, 3}), false},
		{"a vertex in all but the centre", emptyGraph(2), decomp(listed([]int64{1}, []int64{0}, []int64{0}, []int64{0}), []int64{0, 1}, []int64{0, 2}, []int64{0, 3}), false},
		{"a vertex in all but a leaf", emptyGraph(2), decomp(listed([]int64{0}, []int64{0}, []int64{0}, []int64{1}), []int64{0, 1}, []int64{0, 2}, []int64{0, 3}), true},
	} {
		if isDecomp(c.g, c.d) != c.is {
			t.Error(c.name, "the test's own definition")
		}
		wantAsDefined(t, c.g, c.d)
	}
}

func TestNumbersOfBags(t *testing.T) {
	for _, n := range []int{0, 1, 2, impl.MaxV - 1, impl.MaxV, impl.MaxV + 1, 100000} {
		bags := make([][]int64, n)
		for i := range bags {
			bags[i] = []int64{int64(min(i, impl.MaxV-1))}
		}
		d := decomp(bags, rowLinks(n)...)
		g := emptyGraph(min(max(n, 1), impl.MaxV))
		if n < 1 || n > impl.MaxV {
			wantRefused(t, fmt.Sprint(n, " bags"), g, d)
			if impl.WidthOf(d) != -1 || impl.WaysIn(d) {
				t.Error(n, "bags: WidthOf or WaysIn")
			}
			wantMeets(t, fmt.Sprint(n, " bags"), d, nil)
			continue
		}
		wantAnswers(t, g, d)
		wantWays(t, d)
		if impl.WidthOf(d) != 0 || !impl.WaysIn(d) || len(impl.MeetsOf(d)) != n-1 {
			t.Error(n, "bags: WidthOf, WaysIn or MeetsOf")
		}
	}
	wantRefused(t, "a link without bags", emptyGraph(1), decomp(nil, []int64{0, 1}))
	wantWays(t, decomp(nil, []int64{0, 1}))
	whole := make([][]int64, impl.MaxV+1)
	for i := range whole {
		whole[i] = []int64{0}
	}
	wantAnswers(t, emptyGraph(1), decomp(whole[1:], rowLinks(impl.MaxV)...))
	wantRefused(t, "one bag too many", emptyGraph(1), decomp(whole, rowLinks(impl.MaxV+1)...))
	wantRefused(t, "one bag too many, fewer links", emptyGraph(1), decomp(whole, rowLinks(impl.MaxV)...))
}

func TestNumbersOfLinks(t *testing.T) {
	ring := append(rowLinks(impl.MaxV), []int64{0, impl.MaxV - 1})
	bags := slices.Repeat(listed([]int64{0}), impl.MaxV)
	d := decomp(bags, ring...)
	wantRefused(t, "a ring", emptyGraph(1), d)
	wantWays(t, d)
	if !impl.WaysIn(d) || len(impl.MeetsOf(d)) != impl.MaxV {
		t.Error("a ring: WaysIn or MeetsOf")
	}
	for _, many := range []int{0, 1, impl.MaxV - 1, impl.MaxV, impl.MaxV + 1, impl.MaxEdges, impl.MaxEdges + 1, 100000} {
		d := decomp(bags[:2], slices.Repeat(listed([]int64{0, 1}), many)...)
		wantWays(t, d)
		if got := impl.MeetsOf(d); len(got) == many != (many <= impl.MaxV) || impl.WaysIn(d) != (many <= 2) || impl.WidthOf(d) != 0 {
			t.Error(many, "links:", len(got), "meets, WaysIn or WidthOf")
		}
		if many != 1 {
			wantRefused(t, fmt.Sprint(many, " links"), emptyGraph(1), d)
		}
	}
}

func TestWidths(t *testing.T) {
	for _, c := range []struct {
		name string
		d    impl.Decomp
		want int64
	}{
		{"nothing", impl.Decomp{}, -1},
		{"no bags", decomp([][]int64{}), -1},
		{"no bags, but a link", decomp(nil, []int64{0, 1}), -1},
		{"an empty bag", decomp(listed(nil)), -1},
		{"empty bags", decomp(make([][]int64, impl.MaxV)), -1},
		{"one element", decomp(listed([]int64{7})), 0},
		{"the first bag", decomp(listed(upTo(4), upTo(2), upTo(3))), 3},
		{"the bag between", decomp(listed(upTo(2), upTo(4), upTo(3))), 3},
		{"the last bag", decomp(listed(upTo(2), nil, upTo(4))), 3},
		{"elements twice", decomp(listed([]int64{3, 3, 1, 3})), 3},
		{"a very long bag", decomp(listed(upTo(3), upTo(100000))), 99999},
		{"links that are none", decomp(listed(upTo(3)), nil, []int64{5, -5}, []int64{math.MaxInt64}), 2},
		{"most bags", decomp(slices.Repeat(listed(upTo(3)), impl.MaxV)), 2},
		{"one bag too many", decomp(slices.Repeat(listed(upTo(3)), impl.MaxV+1)), -1},
	} {
		if got := impl.WidthOf(c.d); got != c.want {
			t.Error(c.name, got, c.want)
		}
	}
}

// The expected decompositions are written out here, not computed.
func TestTidiedDecompStepByStep(t *testing.T) {
	for _, c := range []struct {
		name  string
		n     int
		d     impl.Decomp
		bags  [][]int64
		links [][]int64
	}{
		{"links are sorted", 5, decomp(listed([]int64{0, 1}, []int64{1, 2}, []int64{0, 3}, []int64{2, 4}), []int64{1, 3}, []int64{0, 2}, []int64{0, 1}),
			listed([]int64{0, 1}, []int64{1, 2}, []int64{0, 3}, []int64{2, 4}), listed([]int64{0, 1}, []int64{0, 2}, []int64{1, 3})},
		{"of two equal bags the greater one goes", 4, decomp(listed([]int64{0, 1}, []int64{1, 2}, []int64{0, 1}, []int64{1, 3}), []int64{2, 3}, []int64{0, 2}, []int64{0, 1}),
			listed([]int64{0, 1}, []int64{1, 2}, []int64{1, 3}), listed([]int64{0, 1}, []int64{0, 2})},
		{"the smaller number goes", 4, decomp(listed([]int64{0}, []int64{1, 2}, []int64{0, 1}, []int64{0, 3}), []int64{0, 3}, []int64{0, 2}, []int64{1, 2}),
			listed([]int64{1, 2}, []int64{0, 1}, []int64{0, 3}), listed([]int64{0, 1}, []int64{1, 2})},
		{"by the smaller bag first", 4, decomp(listed([]int64{0, 1}, []int64{2, 3}, []int64{1, 2}, []int64{1}), []int64{1, 2}, []int64{2, 3}, []int64{0, 3}),
			listed([]int64{0, 1}, []int64{2, 3}, []int64{1, 2}), listed([]int64{0, 2}, []int64{1, 2})},
		{"by the greater bag second", 4, decomp(listed([]int64{1}, []int64{2, 3}, []int64{0, 1}, []int64{1, 2}), []int64{0, 3}, []int64{1, 3}, []int64{0, 2}),
			listed([]int64{2, 3}, []int64{0, 1}, []int64{1, 2}), listed([]int64{0, 2}, []int64{1, 2})},
		{"an empty bag in the centre", 3, decomp(listed(nil, []int64{0}, []int64{1}, []int64{2}), []int64{0, 1}, []int64{0, 2}, []int64{0, 3}),
			listed([]int64{0}, []int64{1}, []int64{2}), listed([]int64{0, 1}, []int64{0, 2})},
		{"an empty bag at the end", 3, decomp(listed([]int64{2}, []int64{0}, []int64{1}, nil), []int64{0, 3}, []int64{1, 3}, []int64{2, 3}),
			listed([]int64{2}, []int64{0}, []int64{1}), listed([]int64{0, 1}, []int64{0, 2})},
		{"empty bags only beside one", 1, decomp(listed(nil, nil, []int64{0}, nil), []int64{0, 1}, []int64{1, 2}, []int64{2, 3}), listed([]int64{0}), nil},
		{"one after the other", 4, decomp(listed([]int64{0}, []int64{0, 1}, []int64{0, 1, 2}, []int64{0, 1, 2, 3}), []int64{0, 1}, []int64{1, 2}, []int64{2, 3}), listed(upTo(4)), nil},
		{"the other way round", 4, decomp(listed([]int64{0, 1, 2, 3}, []int64{0, 1, 2}, []int64{0, 1}, []int64{0}), []int64{0, 1}, []int64{1, 2}, []int64{2, 3}), listed(upTo(4)), nil},
		{"a bag that is a part of one that is not linked", 4, decomp(listed([]int64{0, 1}, []int64{1, 2}, []int64{0, 1, 3}), []int64{0, 1}, []int64{0, 2}),
			listed([]int64{1, 2}, []int64{0, 1, 3}), listed([]int64{0, 1})},
	} {
		d, is := impl.TidiedDecomp(emptyGraph(c.n), c.d)
		wantDecomp(t, c.name, d, is, decomp(c.bags, c.links...))
		wantAnswers(t, emptyGraph(c.n), c.d)
	}
}

func TestOrderByStepByStep(t *testing.T) {
	path := pathPower(4, 1)
	bags := decomp(listed([]int64{0, 1}, []int64{1, 2}, []int64{2, 3}), []int64{0, 1}, []int64{1, 2})
	wantList(t, "a path", impl.OrderBy(path, bags), 0, 1, 2, 3)
	wantList(t, "a path in one bag", impl.OrderBy(path, wholeBag(4)), 0, 1, 2, 3)
	inner := fromEdges(4, [2]int{0, 2}, [2]int{0, 1}, [2]int{1, 3})
	bags = decomp(listed([]int64{0, 2}, []int64{0, 1}, []int64{1, 3}), []int64{0, 1}, []int64{1, 2})
	wantList(t, "the smallest vertices later", impl.OrderBy(inner, bags), 2, 0, 1, 3)
	wantList(t, "the smallest vertices first", impl.OrderBy(inner, wholeBag(4)), 0, 1, 2, 3)
	star := starGraph(5, 0)
	bags = decomp(listed([]int64{0, 1}, []int64{0, 2}, []int64{0, 3}, []int64{0, 4}), []int64{0, 1}, []int64{0, 2}, []int64{0, 3})
	wantList(t, "a star", impl.OrderBy(star, bags), 1, 2, 3, 0, 4)
	bags = decomp(listed([]int64{0, 3, 4}, []int64{0, 1, 2}), []int64{0, 1})
	wantList(t, "a star in two bags", impl.OrderBy(star, bags), 1, 2, 0, 3, 4)
	// No bag has 2, 3 and 4, so that 4 goes before 2.
	square := fromEdges(6, [2]int{0, 1}, [2]int{0, 3}, [2]int{1, 2}, [2]int{2, 3}, [2]int{2, 4}, [2]int{3, 5})
	bags = decomp(listed([]int64{0, 1, 3}, []int64{1, 2, 3}, []int64{2, 4}, []int64{3, 5}), []int64{0, 1}, []int64{1, 2}, []int64{1, 3})
	wantList(t, "a square with two tails", impl.OrderBy(square, bags), 0, 1, 4, 2, 3, 5)
	// When 0 is gone, 1 and 2 are neighbours, and no bag has both of them with 3 or with 4.
	fill := fromEdges(5, [2]int{0, 1}, [2]int{0, 2}, [2]int{1, 4}, [2]int{2, 3})
	bags = decomp(listed([]int64{0, 1, 2}, []int64{1, 4}, []int64{2, 3}), []int64{0, 1}, []int64{0, 2})
	wantList(t, "added edges count", impl.OrderBy(fill, bags), 0, 3, 2, 1, 4)
}

// wantTree fails unless CliqueTree returns the tree that the chapter describes, if g is chordal.
func wantTree(t *testing.T, g impl.Graph) {
	t.Helper()
	d, is := impl.CliqueTree(g)
	if truePerfect(g) == nil {
		wantNoDecomp(t, "CliqueTree", d, is)
		return
	}
	bags := impl.CliquesOf(g)
	if want := decomp(bags, trueTree(bags)...); !is || !sameDecomp(d, want) {
		t.Fatal("CliqueTree", g.Next, d, is, want)
	}
	if !isDecomp(g, d) || !impl.DecompOk(g, d) || impl.WidthOf(d) != longest(bags)-1 {
		t.Fatal("CliqueTree returned no tree decomposition", g.Next, d)
	}
	if tidied, is := impl.TidiedDecomp(g, d); !is || !sameDecomp(tidied, d) {
		t.Fatal("a clique tree is not tidy", g.Next, d, tidied)
	}
	if !impl.PerfectIn(g, impl.OrderBy(g, d)) {
		t.Fatal("the order of a clique tree adds an edge", g.Next, d)
	}
}

func TestCliqueTrees(t *testing.T) {
	for _, g := range everyChordal() {
		wantTree(t, g)
	}
}

func TestCliqueTreesAmongEquals(t *testing.T) {
	for _, c := range []struct {
		name  string
		g     impl.Graph
		bags  [][]int64
		links [][]int64
	}{
		{"a star", starGraph(5, 0), listed([]int64{0, 1}, []int64{0, 2}, []int64{0, 3}, []int64{0, 4}), listed([]int64{0, 1}, []int64{0, 2}, []int64{0, 3})},
		{"no edges", emptyGraph(4), listed([]int64{0}, []int64{1}, []int64{2}, []int64{3}), listed([]int64{0, 1}, []int64{0, 2}, []int64{0, 3})},
		{"a path", pathPower(4, 1), listed([]int64{0, 1}, []int64{1, 2}, []int64{2, 3}), listed([]int64{0, 1}, []int64{1, 2})},
		{"two edges", fromEdges(4, [2]int{0, 3}, [2]int{1, 2}), listed([]int64{0, 3}, []int64{1, 2}), listed([]int64{0, 1})},
		{"more common vertices first", fromEdges(5, [2]int{0, 1}, [2]int{1, 2}, [2]int{1, 3}, [2]int{2, 3}, [2]int{2, 4}, [2]int{3, 4}, [2]int{1, 4}),
			listed([]int64{0, 1}, []int64{1, 2, 3, 4}), listed([]int64{0, 1})},
		{"the greater bags first", fromEdges(6, [2]int{0, 1}, [2]int{0, 5}, [2]int{1, 2}, [2]int{1, 3}, [2]int{2, 3}, [2]int{2, 4}, [2]int{3, 4}),
			listed([]int64{0, 1}, []int64{0, 5}, []int64{1, 2, 3}, []int64{2, 3, 4}), listed([]int64{0, 1}, []int64{0, 2}, []int64{2, 3})},
		{"a path between parts", fromEdges(5, [2]int{0, 2}, [2]int{2, 4}, [2]int{1, 3}), listed([]int64{0, 2}, []int64{1, 3}, []int64{2, 4}), listed([]int64{0, 1}, []int64{0, 2})},
	} {
		d, is := impl.CliqueTree(c.g)
		wantDecomp(t, c.name, d, is, decomp(c.bags, c.links...))
		wantTree(t, c.g)
	}
}

func TestGraphsWithoutCliqueTree(t *testing.T) {
	for _, g := range loopedGraphs() {
		d, is := impl.CliqueTree(g)
		wantNoDecomp(t, fmt.Sprint(g.Next), d, is)
	}
	// This graph has more than MaxV cliques, too.
	d, is := impl.CliqueTree(manyParted(impl.MaxV, 8))
	wantNoDecomp(t, "eight pairs", d, is)
}

func TestDecompByOfListsThatAreNoOrders(t *testing.T) {
	for _, g := range []impl.Graph{house(), emptyGraph(1), emptyGraph(2), fullGraph(3), emptyGraph(impl.MaxV), fullGraph(impl.MaxV), cubeGraph()} {
		for name, order := range badOrders(len(g.Next)) {
			d, is := impl.DecompBy(g, order)
			wantNoDecomp(t, name, d, is)
		}
	}
}

func TestDecompOfOneVertex(t *testing.T) {
	g := emptyGraph(1)
	one := wholeBag(1)
	d, is := impl.DecompBy(g, []int64{0})
	wantDecomp(t, "DecompBy", d, is, one)
	d, is = impl.CliqueTree(g)
	wantDecomp(t, "CliqueTree", d, is, one)
	d, is = impl.TidiedDecomp(g, one)
	wantDecomp(t, "TidiedDecomp", d, is, one)
	wantList(t, "OrderBy", impl.OrderBy(g, one), 0)
	wantMeets(t, "one bag", one, [][]int64{})
	if !impl.DecompOk(g, one) || impl.WidthOf(one) != 0 || !impl.WaysIn(one) {
		t.Error("DecompOk, WidthOf or WaysIn")
	}
}

func TestDecompsWithoutEdgesAndComplete(t *testing.T) {
	for n := 1; n <= impl.MaxV; n++ {
		empty, full := emptyGraph(n), fullGraph(n)
		singles, ends, star := [][]int64{}, [][]int64{}, [][]int64{}
		for v := range int64(n) {
			singles = append(singles, []int64{v})
			ends = append(ends, upTo(n)[v:])
			if v > 0 {
				star = append(star, []int64{0, v})
			}
		}
		row := decomp(singles, rowLinks(n)...)
		d, is := impl.DecompBy(empty, upTo(n))
		wantDecomp(t, "DecompBy, no edges", d, is, row)
		d, is = impl.TidiedDecomp(empty, row)
		wantDecomp(t, "TidiedDecomp, no edges", d, is, row)
		d, is = impl.CliqueTree(empty)
		wantDecomp(t, "CliqueTree, no edges", d, is, decomp(singles, star...))
		if !impl.DecompOk(empty, d) || impl.WaysIn(d) != (n <= 3) || !impl.WaysIn(row) || impl.WidthOf(d) != 0 {
			t.Error("no edges: DecompOk, WaysIn or WidthOf", n)
		}
		wantMeets(t, "no edges", row, make([][]int64, n-1))
		d, is = impl.DecompBy(full, upTo(n))
		wantDecomp(t, "DecompBy, complete", d, is, decomp(ends, rowLinks(n)...))
		wantMeets(t, "complete", d, ends[1:])
		d, is = impl.TidiedDecomp(full, d)
		wantDecomp(t, "TidiedDecomp, complete", d, is, wholeBag(n))
		d, is = impl.CliqueTree(full)
		wantDecomp(t, "CliqueTree, complete", d, is, wholeBag(n))
		wantList(t, "OrderBy, no edges", impl.OrderBy(empty, row), upTo(n)...)
		wantList(t, "OrderBy, complete", impl.OrderBy(full, d), upTo(n)...)
		if n > 1 && impl.DecompOk(full, row) {
			t.Error("complete: DecompOk", n)
		}
	}
}

func TestDecompsOfMostVertices(t *testing.T) {
	for _, c := range []struct {
		name  string
		g     impl.Graph
		width int64
		many  int
	}{
		{"ring", ringGraph(impl.MaxV, 1), 2, 14},
		{"row", pathPower(impl.MaxV, 3), 3, 13},
		{"row of nearly all", pathPower(impl.MaxV, 14), 14, 2},
		{"star", starGraph(impl.MaxV, 15), 1, 15},
		{"two sides", twoSidedGraph(impl.MaxV), 8, 8},
		{"eight pairs", manyParted(impl.MaxV, 8), 14, 2},
	} {
		d, is := impl.DecompBy(c.g, upTo(impl.MaxV))
		wantDecomp(t, c.name, d, is, trueDecompBy(c.g, upTo(impl.MaxV)))
		tidied, is := impl.TidiedDecomp(c.g, d)
		if !is || len(tidied.Bags) != c.many || impl.WidthOf(d) != c.width || impl.WidthOf(tidied) != c.width {
			t.Error(c.name, tidied, impl.WidthOf(d))
		}
		wantAnswers(t, c.g, d)
	}
}

func TestDecompsOfInvalidGraphs(t *testing.T) {
	for _, bad := range badGraphs() {
		n := len(bad.g.Next)
		all := []impl.Decomp{{}, tidyHouse(), wholeBag(min(n, 100)), wholeBag(1), wholeBag(5), wholeBag(impl.MaxV), wholeBag(impl.MaxV + 1), decomp(listed(nil)), decomp(listed([]int64{})), decomp(listed([]int64{0}, []int64{1}), []int64{0, 1})}
		for _, d := range all {
			wantRefused(t, bad.name, bad.g, d)
		}
		down := upTo(n)
		slices.Reverse(down)
		for _, order := range [][]int64{nil, {}, {0}, upTo(n), down, {0, 1, 2, 3, 4}, {4, 0, 1, 2, 3}, {math.MaxInt64}, {math.MinInt64}} {
			d, is := impl.DecompBy(bad.g, order)
			wantNoDecomp(t, bad.name+", DecompBy", d, is)
		}
		d, is := impl.CliqueTree(bad.g)
		wantNoDecomp(t, bad.name+", CliqueTree", d, is)
	}
}

// decompCall is a call of one function of the chapter; its lists are all that the function returns.
type decompCall struct {
	name string
	call func(g impl.Graph, d impl.Decomp, order []int64) [][]int64
}

// decompCalls returns calls of every function of the chapter.
func decompCalls() []decompCall {
	return []decompCall{
		{"DecompOk", func(g impl.Graph, d impl.Decomp, _ []int64) [][]int64 { impl.DecompOk(g, d); return nil }},
		{"WidthOf", func(_ impl.Graph, d impl.Decomp, _ []int64) [][]int64 { return [][]int64{{impl.WidthOf(d)}} }},
		{"DecompBy", func(g impl.Graph, _ impl.Decomp, order []int64) [][]int64 {
			d, _ := impl.DecompBy(g, order)
			return slices.Concat(d.Bags, d.Links)
		}},
		{"TidiedDecomp", func(g impl.Graph, d impl.Decomp, _ []int64) [][]int64 {
			d, _ = impl.TidiedDecomp(g, d)
			return slices.Concat(d.Bags, d.Links)
		}},
		{"OrderBy", func(g impl.Graph, d impl.Decomp, _ []int64) [][]int64 { return [][]int64{impl.OrderBy(g, d)} }},
		{"CliqueTree", func(g impl.Graph, _ impl.Decomp, _ []int64) [][]int64 {
			d, _ := impl.CliqueTree(g)
			return slices.Concat(d.Bags, d.Links)
		}},
		{"WaysIn", func(_ impl.Graph, d impl.Decomp, _ []int64) [][]int64 { impl.WaysIn(d); return nil }},
		{"MeetsOf", func(_ impl.Graph, d impl.Decomp, _ []int64) [][]int64 { return impl.MeetsOf(d) }},
	}
}

// packedDecomp is a Decomp and an order in packed slices, with what they must stay.
type packedDecomp struct {
	d      impl.Decomp
	order  []int64
	stores [][]int64
	want   [][]int64
}

// packedAll packs d and order. The slices beyond the ends of Bags and Links, within their capacity,
// hold a guard too.
func packedAll(d impl.Decomp, order []int64) packedDecomp {
	bags, bagStore := packed(d.Bags)
	links, linkStore := packed(d.Links)
	orders, orderStore := packed([][]int64{order})
	_ = append(bags, []int64{guard}, []int64{guard})
	_ = append(links, []int64{guard}, []int64{guard})
	stores := [][]int64{bagStore, linkStore, orderStore}
	return packedDecomp{decomp(bags, links...), orders[0], stores, copied(stores)}
}

// intact fails if p is no longer what it was packed from.
func (p packedDecomp) intact(t *testing.T, name string, d impl.Decomp, order []int64) {
	t.Helper()
	if !sameDecomp(p.d, d) || !slices.Equal(p.order, order) || !sameLists(p.stores, p.want) {
		t.Fatalf("%s changed its argument: %v %v %v", name, p.d, p.order, p.stores)
	}
	for _, some := range [][][]int64{p.d.Bags, p.d.Links} {
		for _, row := range some[len(some) : len(some)+2] {
			if len(row) != 1 || row[0] != guard {
				t.Fatal(name, "wrote beyond its argument", some[:len(some)+2])
			}
		}
	}
}

// erase overwrites all that p holds.
func (p packedDecomp) erase() {
	for _, store := range p.stores {
		for i := range store {
			store[i] = guard
		}
	}
	clear(p.d.Bags[:cap(p.d.Bags)])
	clear(p.d.Links[:cap(p.d.Links)])
}

// wrongDecomps returns decompositions that belong to no graph.
func wrongDecomps() []impl.Decomp {
	list := []impl.Decomp{{}, decomp(listed([]int64{3, 1, 1}, []int64{2, 1, -7, 1}), []int64{0, 1}, []int64{0, 1}), decomp(listed(nil), nil), decomp(nil, []int64{0, 1}), decomp(make([][]int64, 17), rowLinks(17)...)}
	for _, link := range badLinks() {
		if len(link) < 5 {
			list = append(list, decomp(tidyHouse().Bags, link, []int64{1, 2}))
		}
	}
	return list
}

// Promise 35, for arguments that are not valid too: they are arguments like others.
func TestDecompArgumentsStay(t *testing.T) {
	all := append(someGraphs(), house(), cubeGraph())
	for _, bad := range badGraphs() {
		if len(bad.g.Next) <= impl.MaxV+1 {
			all = append(all, bad.g)
		}
	}
	for _, g := range all {
		n := len(g.Next)
		ds := append(wrongDecomps(), wholeBag(n), tidyHouse())
		if impl.GraphOk(g) {
			ds = append(ds, decompsOf(g)...)
		}
		for i, d := range ds {
			order := [][]int64{upTo(n), {0, 0, 1}, upTo(n + 1), {4, 0, 3, 1, 2}, {-1, math.MaxInt64, math.MinInt64}}[i%5]
			p, store := packedGraph(g)
			a := packedAll(d, order)
			for _, c := range decompCalls() {
				c.call(p, a.d, a.order)
				intact(t, c.name, p, store, g)
				a.intact(t, c.name, d, order)
			}
		}
	}
}

// Promise 35: a result keeps its value when the arguments are overwritten, and the other way
// round; its slices are apart.
func TestDecompResultsAreNewMemory(t *testing.T) {
	for _, g := range slices.Concat(someGraphs(), []impl.Graph{house(), cubeGraph(), pathPower(9, 2), starGraph(6, 2)}) {
		order := upTo(len(g.Next))
		for _, d := range append(decompsOf(g)[:6], tidyHouse()) {
			for _, c := range decompCalls() {
				p, store := packedGraph(g)
				a := packedAll(d, order)
				got := c.call(p, a.d, a.order)
				want := copied(got)
				apart(t, c.name, got)
				for _, list := range got {
					whole := list[:cap(list)]
					for i := range whole {
						whole[i] = guard
					}
				}
				clear(got[:cap(got)])
				intact(t, c.name, p, store, g)
				a.intact(t, c.name, d, order)
				got = c.call(p, a.d, a.order)
				for i := range store {
					store[i] = guard
				}
				clear(p.Next[:cap(p.Next)])
				a.erase()
				if !sameLists(got, want) {
					t.Fatal(c.name, "shares memory with an argument", g.Next, d)
				}
			}
		}
	}
}

func TestDecompResultsOfTwoCallsAreApart(t *testing.T) {
	for _, g := range []impl.Graph{house(), emptyGraph(1), emptyGraph(impl.MaxV), fullGraph(impl.MaxV), cubeGraph(), starGraph(impl.MaxV, 0), pathPower(7, 2)} {
		order := upTo(len(g.Next))
		for _, d := range decompsOf(g) {
			for _, c := range decompCalls() {
				first := c.call(g, d, order)
				second := c.call(g, d, order)
				want := copied(first)
				if !sameLists(second, want) {
					t.Fatal(c.name, "returns something else the second time", first, second)
				}
				apart(t, c.name, slices.Concat(first, second))
				for _, row := range first {
					clear(row)
				}
				clear(first[:cap(first)])
				if third := c.call(g, d, order); !sameLists(second, want) || !sameLists(third, want) {
					t.Fatal(c.name, "keeps what it returned", second, third)
				}
			}
		}
	}
}
