package tests

import (
	"fmt"
	"math"
	"math/big"
	"slices"
	"testing"

	"loop.example/g00871/impl"
)

// oneNumber is a generator of one number, with the edges that its graph of n vertices has; count
// returns n, or 0 if there is no graph.
type oneNumber struct {
	name  string
	make  func(int64) (impl.Graph, bool)
	count func(x int64) int
	edges func(n int) [][2]int
}

// rangeCount returns a count of x+more vertices for the numbers x from low to high.
func rangeCount(low, high int64, more int) func(int64) int {
	return func(x int64) int {
		if x < low || x > high {
			return 0
		}
		return int(x) + more
	}
}

func pathEdges(n int) [][2]int {
	out := [][2]int{}
	for v := range n - 1 {
		out = append(out, [2]int{v, v + 1})
	}
	return out
}

func loopEdges(n int) [][2]int {
	return append(pathEdges(n), [2]int{0, n - 1})
}

func fullEdges(n int) [][2]int {
	out := [][2]int{}
	for _, p := range allPairs(n) {
		out = append(out, [2]int{int(p[0]), int(p[1])})
	}
	return out
}

func wheelEdges(n int) [][2]int {
	out := loopEdges(n - 1)
	for v := range n - 1 {
		out = append(out, [2]int{v, n - 1})
	}
	return out
}

func starEdges(n int) [][2]int {
	out := [][2]int{}
	for v := 1; v < n; v++ {
		out = append(out, [2]int{0, v})
	}
	return out
}

// pairNames are the subsets in the order of the specification, written out.
var pairNames = []string{"01", "02", "12", "03", "13", "23", "04", "14", "24", "34", "05", "15", "25", "35", "45"}

func kneserEdges(n int) [][2]int {
	out := [][2]int{}
	for v, b := range pairNames[:n] {
		for u, a := range pairNames[:v] {
			if a[0] != b[0] && a[0] != b[1] && a[1] != b[0] && a[1] != b[1] {
				out = append(out, [2]int{u, v})
			}
		}
	}
	return out
}

func kneserCount(x int64) int {
	return map[int64]int{4: 6, 5: 10, 6: 15}[x]
}

func oneNumbers() []oneNumber {
	return []oneNumber{
		{"PathGraph", impl.PathGraph, rangeCount(1, 16, 0), pathEdges},
		{"LoopGraph", impl.LoopGraph, rangeCount(3, 16, 0), loopEdges},
		{"FullGraph", impl.FullGraph, rangeCount(1, 16, 0), fullEdges},
		{"WheelGraph", impl.WheelGraph, rangeCount(3, 15, 1), wheelEdges},
		{"KneserGraph", impl.KneserGraph, kneserCount, kneserEdges},
		{"StarGraph", impl.StarGraph, rangeCount(0, 15, 1), starEdges},
	}
}

// twoNumbers is a generator of two numbers from 1 on, with its numbers of vertices and its edges.
type twoNumbers struct {
	name  string
	make  func(int64, int64) (impl.Graph, bool)
	count func(a, b int) int
	edges func(a, b int) [][2]int
}

func twoSidedEdges(a, b int) [][2]int {
	out := [][2]int{}
	for u := range a {
		for v := range b {
			out = append(out, [2]int{u, a + v})
		}
	}
	return out
}

func gridEdges(a, b int) [][2]int {
	out := [][2]int{}
	for i := range a {
		for j := range b {
			if j+1 < b {
				out = append(out, [2]int{i*b + j, i*b + j + 1})
			}
			if i+1 < a {
				out = append(out, [2]int{i*b + j, (i+1)*b + j})
			}
		}
	}
	return out
}

func twoNumberMakers() []twoNumbers {
	return []twoNumbers{
		{"TwoSided", impl.TwoSided, func(a, b int) int { return a + b }, twoSidedEdges},
		{"GridGraph", impl.GridGraph, func(a, b int) int { return a * b }, gridEdges},
	}
}

// want returns the graph for a and b, or the zero Graph if there is none.
func (k twoNumbers) want(a, b int64) impl.Graph {
	if a < 1 || b < 1 || a > impl.MaxV || b > impl.MaxV || k.count(int(a), int(b)) > impl.MaxV {
		return impl.Graph{}
	}
	return fromEdges(k.count(int(a), int(b)), k.edges(int(a), int(b))...)
}

// diceEdges returns the edges of DiceGraph, with draws in arithmetic of any length.
func diceEdges(seed int64, n int, of int64) [][2]int {
	size := big.NewInt(999999937)
	state := new(big.Int).Mod(big.NewInt(seed), size)
	out := [][2]int{}
	for v := range n {
		for u := range v {
			state.Mul(state, big.NewInt(48271))
			state.Add(state, big.NewInt(11))
			state.Mod(state, size)
			if new(big.Int).Mod(state, big.NewInt(100)).Int64() < of {
				out = append(out, [2]int{u, v})
			}
		}
	}
	return out
}

// diceWant returns the graph of DiceGraph, or the zero Graph if there is none.
func diceWant(seed, n, of int64) impl.Graph {
	if n < 1 || n > impl.MaxV || of < 0 || of > 100 {
		return impl.Graph{}
	}
	return fromEdges(int(n), diceEdges(seed, int(n), of)...)
}

// wantMade fails unless a generator returned the graph want and true, or the zero Graph and false
// if want is the zero Graph.
func wantMade(t *testing.T, name string, got impl.Graph, is bool, want impl.Graph) {
	t.Helper()
	if len(want.Next) == 0 {
		wantNone(t, name, got, is)
	} else {
		wantGraph(t, name, got, is, want)
	}
}

// numbers returns all numbers near the ranges, and numbers that are as great and as small as can
// be, or whose sums and products wrap around to the size of a graph.
func numbers() []int64 {
	out := []int64{}
	for x := int64(-40); x <= 40; x++ {
		out = append(out, x)
	}
	for x := int64(0); x <= 20; x++ {
		out = append(out, math.MaxInt64-x, math.MinInt64+x)
	}
	for _, bit := range []int{8, 16, 31, 32, 33, 60, 61, 62} {
		for x := int64(-4); x <= 16; x++ {
			out = append(out, 1<<bit+x, -(1<<bit)+x)
		}
	}
	return append(out, math.MaxInt64/2, math.MinInt64/3, 6148914691236517206, 3037000500)
}

func TestMakeExamples(t *testing.T) {
	check := func(want string, name string) func(impl.Graph, bool) {
		return func(g impl.Graph, is bool) {
			t.Helper()
			if !is || impl.GraphText(g) != want {
				t.Errorf("%s: %q %v, want %q", name, impl.GraphText(g), is, want)
			}
		}
	}
	check("3: 0-1 1-2", "PathGraph(3)")(impl.PathGraph(3))
	check("4: 0-1 0-3 1-2 2-3", "LoopGraph(4)")(impl.LoopGraph(4))
	check("3: 0-1 0-2 1-2", "FullGraph(3)")(impl.FullGraph(3))
	check("3: 0-1 0-2", "TwoSided(1, 2)")(impl.TwoSided(1, 2))
	check("4: 0-1 0-2 0-3 1-2 1-3 2-3", "WheelGraph(3)")(impl.WheelGraph(3))
	check("6: 0-1 0-3 1-2 1-4 2-5 3-4 4-5", "GridGraph(2, 3)")(impl.GridGraph(2, 3))
	check("6: 0-5 1-4 2-3", "KneserGraph(4)")(impl.KneserGraph(4))
	check("3: 1-2", "DiceGraph(1, 3, 50)")(impl.DiceGraph(1, 3, 50))
	check("3: 0-1 0-2", "StarGraph(2)")(impl.StarGraph(2))
}

func TestMadeOfOneNumber(t *testing.T) {
	for _, k := range oneNumbers() {
		for _, x := range numbers() {
			want := impl.Graph{}
			if n := k.count(x); n > 0 {
				want = fromEdges(n, k.edges(n)...)
			}
			g, is := k.make(x)
			wantMade(t, fmt.Sprint(k.name, " ", x), g, is, want)
		}
	}
}

func TestMadeOfTwoNumbers(t *testing.T) {
	for _, k := range twoNumberMakers() {
		for _, a := range numbers() {
			for _, b := range numbers() {
				g, is := k.make(a, b)
				wantMade(t, fmt.Sprint(k.name, " ", a, " ", b), g, is, k.want(a, b))
			}
		}
	}
}

func TestRangesOfOneNumber(t *testing.T) {
	for _, c := range []struct {
		name      string
		make      func(int64) (impl.Graph, bool)
		low, high int64
		few, many int
	}{
		{"PathGraph", impl.PathGraph, 1, 16, 1, 16},
		{"LoopGraph", impl.LoopGraph, 3, 16, 3, 16},
		{"FullGraph", impl.FullGraph, 1, 16, 1, 16},
		{"WheelGraph", impl.WheelGraph, 3, 15, 4, 16},
		{"KneserGraph", impl.KneserGraph, 4, 6, 6, 15},
		{"StarGraph", impl.StarGraph, 0, 15, 1, 16},
	} {
		least, isLeast := c.make(c.low)
		most, isMost := c.make(c.high)
		if !isLeast || !isMost || len(least.Next) != c.few || len(most.Next) != c.many {
			t.Errorf("%s at the ends of its range: %v %v, %v %v", c.name, least, isLeast, most, isMost)
		}
		for _, x := range []int64{c.low - 1, c.high + 1, -1 - c.low, -c.high, math.MinInt64, math.MaxInt64} {
			g, is := c.make(x)
			wantNone(t, fmt.Sprint(c.name, " ", x), g, is)
		}
	}
}

func TestRangesOfTwoNumbers(t *testing.T) {
	for _, c := range []struct {
		name string
		make func(int64, int64) (impl.Graph, bool)
		yes  [][2]int64
		no   [][2]int64
	}{
		{"TwoSided", impl.TwoSided,
			[][2]int64{{1, 1}, {1, 15}, {15, 1}, {8, 8}, {7, 9}},
			[][2]int64{{1, 16}, {16, 1}, {8, 9}, {9, 8}, {0, 5}, {5, 0}, {0, 16}, {-1, 5}, {5, -1}, {-3, 17}, {20, -10},
				{math.MinInt64, math.MinInt64}, {math.MinInt64, math.MinInt64 + 5}, {math.MaxInt64, math.MinInt64 + 8},
				{math.MaxInt64, math.MaxInt64}, {math.MaxInt64, 1}, {1, math.MaxInt64}, {1 << 62, 1 << 62}}},
		{"GridGraph", impl.GridGraph,
			[][2]int64{{1, 1}, {1, 16}, {16, 1}, {4, 4}, {2, 8}, {8, 2}, {3, 5}},
			[][2]int64{{1, 17}, {17, 1}, {4, 5}, {3, 6}, {2, 9}, {0, 5}, {5, 0}, {0, 0}, {-1, -1}, {-3, -4}, {-2, 3},
				{3, 6148914691236517206}, {6148914691236517206, 3}, {1 << 32, 1 << 32}, {1<<32 + 1, 1 << 32},
				{math.MinInt64, math.MinInt64}, {math.MinInt64, 2}, {math.MaxInt64, math.MaxInt64}, {math.MaxInt64, -5},
				{1, math.MaxInt64}, {math.MinInt64, 1}}},
	} {
		for _, x := range c.yes {
			if g, is := c.make(x[0], x[1]); !is || !impl.GraphOk(g) {
				t.Errorf("%s%v: %v %v", c.name, x, g, is)
			}
		}
		for _, x := range c.no {
			g, is := c.make(x[0], x[1])
			wantNone(t, fmt.Sprint(c.name, x), g, is)
		}
	}
}

func diceSeeds() []int64 {
	const size = 999999937
	out := []int64{7, 48271, 1 << 32, -(1 << 32), 123456789012, math.MaxInt64, math.MaxInt64 - 1, math.MinInt64, math.MinInt64 + 1}
	for _, middle := range []int64{-2 * size, -size, 0, size, 2 * size, 9223372000 * size} {
		out = append(out, middle-1, middle, middle+1)
	}
	return out
}

func TestDiceOfEverySeedAndSize(t *testing.T) {
	for _, seed := range diceSeeds() {
		for n := int64(-1); n <= impl.MaxV+1; n++ {
			for _, of := range []int64{-1, 0, 1, 17, 50, 83, 99, 100, 101} {
				g, is := impl.DiceGraph(seed, n, of)
				wantMade(t, fmt.Sprint("DiceGraph ", seed, " ", n, " ", of), g, is, diceWant(seed, n, of))
			}
		}
	}
}

func TestDiceOfFarNumbers(t *testing.T) {
	for _, seed := range []int64{1, -1, math.MinInt64, math.MaxInt64} {
		for _, x := range numbers() {
			g, is := impl.DiceGraph(x, 6, 50)
			wantMade(t, fmt.Sprint("DiceGraph with seed ", x), g, is, diceWant(x, 6, 50))
			g, is = impl.DiceGraph(seed, x, 50)
			wantMade(t, fmt.Sprint("DiceGraph with n ", x), g, is, diceWant(seed, x, 50))
			g, is = impl.DiceGraph(seed, 6, x)
			wantMade(t, fmt.Sprint("DiceGraph with of ", x), g, is, diceWant(seed, 6, x))
			g, is = impl.DiceGraph(seed, x, x)
			wantMade(t, fmt.Sprint("DiceGraph with n and of ", x), g, is, diceWant(seed, x, x))
		}
	}
}

// The states of three seeds are written out, so that each draw of the order 0-1, 0-2, 1-2, 0-3, ...
// is known: an edge appears as soon as of exceeds the last two digits of its state.
func TestDiceDrawsInOrder(t *testing.T) {
	pairs := [][2]int{{0, 1}, {0, 2}, {1, 2}, {0, 3}, {1, 3}, {2, 3}}
	for seed, states := range map[int64][]int64{
		0:  {11, 530992, 631516418, 930933718, 104332620, 240217299},
		1:  {48282, 330620559, 386008917, 37606397, 298503943, 84740331},
		-1: {999951677, 670441362, 877023919, 824261102, 910161234, 395694267},
	} {
		for of := int64(0); of <= 100; of++ {
			edges := [][2]int{}
			for i, state := range states {
				if state%100 < of {
					edges = append(edges, pairs[i])
				}
			}
			g, is := impl.DiceGraph(seed, 4, of)
			wantGraph(t, fmt.Sprint("DiceGraph ", seed, " 4 ", of), g, is, fromEdges(4, edges...))
		}
	}
}

func TestDiceSeedsOfTheSameState(t *testing.T) {
	const size = 999999937
	for _, seed := range []int64{0, 1, 5, size - 1} {
		want, _ := impl.DiceGraph(seed, 12, 40)
		for _, k := range []int64{-9223372000, -3, -2, -1, 1, 2, 3, 9223372000} {
			g, is := impl.DiceGraph(seed+k*size, 12, 40)
			wantGraph(t, fmt.Sprint("DiceGraph with seed ", seed+k*size), g, is, want)
		}
	}
}

func TestDiceOfNothingAndEverything(t *testing.T) {
	for _, seed := range diceSeeds() {
		for n := 1; n <= impl.MaxV; n++ {
			g, is := impl.DiceGraph(seed, int64(n), 0)
			wantGraph(t, fmt.Sprint("DiceGraph ", seed, n, 0), g, is, emptyGraph(n))
			g, is = impl.DiceGraph(seed, int64(n), 100)
			wantGraph(t, fmt.Sprint("DiceGraph ", seed, n, 100), g, is, fullGraph(n))
		}
	}
}

// The first draws do not depend on the size, so that a smaller graph is the beginning of a greater
// one.
func TestDiceOfASmallerSize(t *testing.T) {
	for _, seed := range diceSeeds() {
		whole, _ := impl.DiceGraph(seed, impl.MaxV, 50)
		for n := 1; n <= impl.MaxV; n++ {
			g, is := impl.DiceGraph(seed, int64(n), 50)
			wantGraph(t, fmt.Sprint("DiceGraph ", seed, n), g, is, pickedGraph(whole, upTo(n)))
		}
	}
}

// moved says whether an automorphism of g begins with the vertices of start. It compares the numbers
// of neighbours first, because there are very many ways to exchange sides of different sizes in part.
func moved(g impl.Graph, start []int64) bool {
	at := len(start) - 1
	if len(g.Next[at]) != len(g.Next[start[at]]) {
		return false
	}
	for i := range at {
		if start[i] == start[at] || near(g, i, at) != near(g, int(start[i]), int(start[at])) {
			return false
		}
	}
	if len(start) == len(g.Next) {
		return true
	}
	for v := range int64(len(g.Next)) {
		if moved(g, append(slices.Clone(start), v)) {
			return true
		}
	}
	return false
}

// trueSymmetries counts the automorphisms of g, also if there are very many: it multiplies, for
// each vertex, the number of vertices to which it can go while those before it stay.
func trueSymmetries(g impl.Graph) int64 {
	many := int64(1)
	for v := range g.Next {
		images := int64(0)
		for w := range int64(len(g.Next)) {
			if moved(g, append(upTo(v), w)) {
				images++
			}
		}
		many *= images
	}
	return many
}

// manyParts counts the components of g by their smallest vertices.
func manyParts(g impl.Graph) int {
	many := 0
	for v, row := range trueDistances(g) {
		if slices.IndexFunc(row, func(d int64) bool { return d >= 0 }) == v {
			many++
		}
	}
	return many
}

func factorial(n int64) int64 {
	if n < 2 {
		return 1
	}
	return n * factorial(n-1)
}

// wantKind fails unless g has so many edges, components and symmetries, both as the program counts
// them and as they are counted here.
func wantKind(t *testing.T, name string, g impl.Graph, is bool, edges int64, parts int, symmetries int64) {
	t.Helper()
	ends := int64(0)
	for _, row := range g.Next {
		ends += int64(len(row))
	}
	if !is || !impl.GraphOk(g) || ends != 2*edges || impl.ManyEdges(g) != edges {
		t.Errorf("promise 6: %s has %d ends and %d edges, want %d", name, ends, impl.ManyEdges(g), edges)
	}
	if manyParts(g) != parts || len(impl.PartsOf(g)) != parts {
		t.Errorf("promise 6: %s has %d components, want %d", name, len(impl.PartsOf(g)), parts)
	}
	if got := trueSymmetries(g); got != symmetries {
		t.Errorf("promise 6: %s has %d symmetries, want %d", name, got, symmetries)
	}
	if len(g.Next) <= impl.MaxSmall && impl.Symmetries(g) != symmetries {
		t.Errorf("promise 6: %s has %d symmetries, want %d", name, impl.Symmetries(g), symmetries)
	}
}

func TestKindsOfOneNumber(t *testing.T) {
	for n := int64(1); n <= impl.MaxV; n++ {
		g, is := impl.PathGraph(n)
		wantKind(t, fmt.Sprint("PathGraph ", n), g, is, n-1, 1, min(n, 2))
		g, is = impl.FullGraph(n)
		wantKind(t, fmt.Sprint("FullGraph ", n), g, is, n*(n-1)/2, 1, factorial(n))
	}
	for n := int64(3); n <= impl.MaxV; n++ {
		g, is := impl.LoopGraph(n)
		wantKind(t, fmt.Sprint("LoopGraph ", n), g, is, n, 1, 2*n)
	}
	for n := int64(3); n < impl.MaxV; n++ {
		turns := 2 * n
		if n == 3 {
			turns = 24
		}
		g, is := impl.WheelGraph(n)
		wantKind(t, fmt.Sprint("WheelGraph ", n), g, is, 2*n, 1, turns)
	}
	for n := int64(0); n < impl.MaxV; n++ {
		swaps := factorial(n)
		if n == 1 {
			swaps = 2
		}
		g, is := impl.StarGraph(n)
		wantKind(t, fmt.Sprint("StarGraph ", n), g, is, n, 1, swaps)
	}
}

// gridTurns returns how many turns and reflections a grid has.
func gridTurns(a, b int64) int64 {
	switch {
	case a == 1 && b == 1:
		return 1
	case a == 1 || b == 1:
		return 2
	case a == b:
		return 8
	}
	return 4
}

func TestKindsOfTwoNumbers(t *testing.T) {
	for a := int64(1); a <= impl.MaxV; a++ {
		for b := int64(1); b <= impl.MaxV; b++ {
			if a+b <= impl.MaxV {
				swaps := factorial(a) * factorial(b)
				if a == b {
					swaps *= 2
				}
				g, is := impl.TwoSided(a, b)
				wantKind(t, fmt.Sprint("TwoSided ", a, " ", b), g, is, a*b, 1, swaps)
			}
			if a*b <= impl.MaxV {
				g, is := impl.GridGraph(a, b)
				wantKind(t, fmt.Sprint("GridGraph ", a, " ", b), g, is, a*(b-1)+b*(a-1), 1, gridTurns(a, b))
			}
		}
	}
}

func TestKindsOfKneserGraphs(t *testing.T) {
	g, is := impl.KneserGraph(4)
	wantKind(t, "KneserGraph 4", g, is, 3, 3, 48)
	g, is = impl.KneserGraph(5)
	wantKind(t, "KneserGraph 5", g, is, 15, 1, 120)
	if impl.LeastLoop(g) == nil || len(impl.LeastLoop(g)) != 5 || searchedFit(petersenGraph(), g, nil) == nil {
		t.Errorf("KneserGraph(5) is not the Petersen graph: %v", g.Next)
	}
	g, is = impl.KneserGraph(6)
	wantKind(t, "KneserGraph 6", g, is, 45, 1, 720)
}

// Each smaller Kneser graph is the beginning of the greater ones, because the subsets are sorted by
// the greater element first.
func TestOrderOfTheSubsets(t *testing.T) {
	g, is := impl.KneserGraph(5)
	wantGraph(t, "KneserGraph 5", g, is, rows(
		[]int64{5, 8, 9}, []int64{4, 7, 9}, []int64{3, 6, 9}, []int64{2, 7, 8}, []int64{1, 6, 8},
		[]int64{0, 6, 7}, []int64{2, 4, 5}, []int64{1, 3, 5}, []int64{0, 3, 4}, []int64{0, 1, 2}))
	whole, _ := impl.KneserGraph(6)
	wantList(t, "disjoint from 0 1", whole.Next[0], 5, 8, 9, 12, 13, 14)
	wantList(t, "disjoint from 0 5", whole.Next[10], 2, 4, 5, 7, 8, 9)
	wantList(t, "disjoint from 4 5", whole.Next[14], 0, 1, 2, 3, 4, 5)
	wantGraph(t, "beginning of KneserGraph 6", g, is, pickedGraph(whole, upTo(10)))
	g, is = impl.KneserGraph(4)
	wantGraph(t, "beginning of KneserGraph 6", g, is, pickedGraph(whole, upTo(6)))
}

func TestOrderOfTheGrid(t *testing.T) {
	for text, size := range map[string][2]int64{
		"6: 0-1 0-2 1-3 2-3 2-4 3-5 4-5": {3, 2},
		"4: 0-1 1-2 2-3":                 {1, 4},
		"5: 0-1 1-2 2-3 3-4":             {5, 1},
		"1:":                             {1, 1},
		"8: 0-1 0-4 1-2 1-5 2-3 2-6 3-7 4-5 5-6 6-7":                                   {2, 4},
		"12: 0-1 0-4 1-2 1-5 2-3 2-6 3-7 4-5 4-8 5-6 5-9 6-7 6-10 7-11 8-9 9-10 10-11": {3, 4},
		"12: 0-1 0-3 1-2 1-4 2-5 3-4 3-6 4-5 4-7 5-8 6-7 6-9 7-8 7-10 8-11 9-10 10-11": {4, 3},
	} {
		if g, is := impl.GridGraph(size[0], size[1]); !is || impl.GraphText(g) != text {
			t.Errorf("GridGraph%v: %q, want %q", size, impl.GraphText(g), text)
		}
	}
}

// The generators agree with each other and with the operations of chapter 2 where the
// specification defines one kind by another.
func TestKindsThatAreOtherKinds(t *testing.T) {
	for n := int64(3); n < impl.MaxV; n++ {
		path, _ := impl.PathGraph(n)
		loop, is := impl.LoopGraph(n)
		closed, _ := impl.AddedEdge(path, n-1, 0)
		wantGraph(t, fmt.Sprint("LoopGraph ", n), loop, is, closed)
		wheel, is := impl.WheelGraph(n)
		spoked, _ := impl.AddedVertex(loop, upTo(int(n)))
		wantGraph(t, fmt.Sprint("WheelGraph ", n), wheel, is, spoked)
		star, is := impl.StarGraph(n)
		sides, _ := impl.TwoSided(1, n)
		wantGraph(t, fmt.Sprint("StarGraph ", n), star, is, sides)
		row, is := impl.GridGraph(1, n)
		wantGraph(t, fmt.Sprint("GridGraph 1 ", n), row, is, path)
		column, is := impl.GridGraph(n, 1)
		wantGraph(t, fmt.Sprint("GridGraph by 1 ", n), column, is, path)
	}
}

func TestTwoSidedHasTheFirstSideFirst(t *testing.T) {
	g, is := impl.TwoSided(3, 2)
	wantGraph(t, "TwoSided 3 2", g, is, rows([]int64{3, 4}, []int64{3, 4}, []int64{3, 4}, []int64{0, 1, 2}, []int64{0, 1, 2}))
	wantSides(t, "TwoSided 3 2", g, 0, 0, 0, 1, 1)
	g, is = impl.TwoSided(2, 3)
	wantGraph(t, "TwoSided 2 3", g, is, rows([]int64{2, 3, 4}, []int64{2, 3, 4}, []int64{0, 1}, []int64{0, 1}, []int64{0, 1}))
}

// makeCalls returns calls of every generator, with small and with greatest graphs.
func makeCalls() map[string]func() (impl.Graph, bool) {
	out := map[string]func() (impl.Graph, bool){}
	for _, k := range oneNumbers() {
		for x := int64(0); x <= impl.MaxV; x++ {
			if k.count(x) > 0 {
				out[fmt.Sprint(k.name, " ", x)] = func() (impl.Graph, bool) { return k.make(x) }
			}
		}
	}
	for _, k := range twoNumberMakers() {
		for _, x := range [][2]int64{{1, 1}, {1, 5}, {5, 1}, {2, 3}, {4, 4}, {2, 8}} {
			out[fmt.Sprint(k.name, x)] = func() (impl.Graph, bool) { return k.make(x[0], x[1]) }
		}
	}
	for n := int64(1); n <= impl.MaxV; n++ {
		out[fmt.Sprint("DiceGraph ", n)] = func() (impl.Graph, bool) { return impl.DiceGraph(n, n, 50) }
	}
	return out
}

func TestMadeGraphsAreNewMemory(t *testing.T) {
	for name, call := range makeCalls() {
		one, isOne := call()
		two, isTwo := call()
		if !isOne || !isTwo || !impl.GraphOk(one) || !sameLists(one.Next, two.Next) {
			t.Fatalf("%s: %v %v, then %v %v", name, one, isOne, two, isTwo)
		}
		apart(t, name, slices.Concat(one.Next, two.Next))
		before := copied(two.Next)
		for i := range one.Next[:cap(one.Next)] {
			one.Next[:cap(one.Next)][i] = []int64{guard}
		}
		three, _ := call()
		if !sameLists(two.Next, before) || !sameLists(three.Next, before) {
			t.Fatalf("%s: two graphs share their rows", name)
		}
	}
}

// Writing into every part of a graph must leave the later ones as they should be: a generator keeps
// nothing from call to call.
func TestMadeGraphsAreNotKept(t *testing.T) {
	for name, call := range makeCalls() {
		g, _ := call()
		before := copied(g.Next)
		for _, row := range g.Next {
			whole := row[:cap(row)]
			for i := range whole {
				whole[i] = guard
			}
		}
		impl.DiceGraph(5, 16, 50)
		again, is := call()
		wantGraph(t, name, again, is, impl.Graph{Next: before})
	}
}
