package tests

import (
	"fmt"
	"math"
	"regexp"
	"slices"
	"strings"
	"testing"

	"loop.example/g00871/impl"
)

// The forms of the texts. What they leave open is whether the numbers fit together.
var (
	graphForm = regexp.MustCompile(`\A([1-9]|1[0-6]):((?: (?:[0-9]|1[0-5])-(?:[0-9]|1[0-5]))*)\z`)
	setForm   = regexp.MustCompile(`\A(?:-|(?:[0-9]|1[0-5])(?:,(?:[0-9]|1[0-5])){0,15})\z`)
	rowsForm  = regexp.MustCompile(`\A(?:[01]{1,16}\n){1,16}\z`)
)

// trueText writes the valid graph g without the program.
func trueText(g impl.Graph) string {
	out := fmt.Sprintf("%d:", len(g.Next))
	for u, row := range g.Next {
		for _, v := range row {
			if int(v) > u {
				out += fmt.Sprintf(" %d-%d", u, v)
			}
		}
	}
	return out
}

// trueRows writes the matrix of the valid graph g without the program.
func trueRows(g impl.Graph) string {
	out := ""
	for v := range g.Next {
		for u := range g.Next {
			if near(g, u, v) {
				out += "1"
			} else {
				out += "0"
			}
		}
		out += "\n"
	}
	return out
}

// trueSet writes a slice of vertices without the program.
func trueSet(s []int64) string {
	if len(s) == 0 {
		return "-"
	}
	return strings.ReplaceAll(strings.Trim(fmt.Sprint(s), "[]"), " ", ",")
}

// readGraph reads the text of a graph without the program: the edges must ascend. It returns the
// zero Graph if s is the text of none.
func readGraph(s string) impl.Graph {
	parts := graphForm.FindStringSubmatch(s)
	if parts == nil {
		return impl.Graph{}
	}
	n, last := 0, -1
	fmt.Sscan(parts[1], &n)
	edges := [][2]int{}
	for _, word := range strings.Fields(parts[2]) {
		u, v := 0, 0
		fmt.Sscanf(word, "%d-%d", &u, &v)
		if u >= v || v >= n || u*impl.MaxV+v <= last {
			return impl.Graph{}
		}
		last = u*impl.MaxV + v
		edges = append(edges, [2]int{u, v})
	}
	return fromEdges(n, edges...)
}

// readRows reads a matrix without the program. It returns the zero Graph if s is the matrix of
// none.
func readRows(s string) impl.Graph {
	if !rowsForm.MatchString(s) {
		return impl.Graph{}
	}
	lines := strings.Split(strings.TrimSuffix(s, "\n"), "\n")
	for v, line := range lines {
		if len(line) != len(lines) || line[v] == '1' {
			return impl.Graph{}
		}
		for u := range v {
			if lines[u][v] != line[u] {
				return impl.Graph{}
			}
		}
	}
	return fromPairs(len(lines), func(u, v int) bool { return lines[u][v] == '1' })
}

// checkGraph fails unless TextGraph treats s as it should; a text that is read is written again.
func checkGraph(t *testing.T, s string) {
	t.Helper()
	want := readGraph(s)
	g, is := impl.TextGraph(s)
	if is != (len(want.Next) > 0) || !sameLists(g.Next, want.Next) {
		t.Fatalf("TextGraph(%q): %v %v", s, g, is)
	}
	if is && impl.GraphText(g) != s {
		t.Fatalf("promise 5: %q is read and written as %q", s, impl.GraphText(g))
	}
}

// checkRows does for TextRows what checkGraph does for TextGraph.
func checkRows(t *testing.T, s string) {
	t.Helper()
	want := readRows(s)
	g, is := impl.TextRows(s)
	if is != (len(want.Next) > 0) || !sameLists(g.Next, want.Next) {
		t.Fatalf("TextRows(%q): %v %v", s, g, is)
	}
	if is && impl.RowsText(g) != s {
		t.Fatalf("promise 5: %q is read and written as %q", s, impl.RowsText(g))
	}
}

// checkSet does for TextSet what checkGraph does for TextGraph.
func checkSet(t *testing.T, s string) {
	t.Helper()
	set, is := impl.TextSet(s)
	if is != setForm.MatchString(s) || !is && len(set) > 0 || is && trueSet(set) != s {
		t.Fatalf("TextSet(%q): %v %v", s, set, is)
	}
	if is && impl.SetText(set) != s {
		t.Fatalf("promise 5: %q is read and written as %q", s, impl.SetText(set))
	}
}

// checkAll gives s to all three parsers.
func checkAll(t *testing.T, s string) {
	t.Helper()
	checkGraph(t, s)
	checkSet(t, s)
	checkRows(t, s)
}

// allTexts calls do with start and every text that continues it by up to more of these bytes.
func allTexts(start, bytes string, more int, do func(string)) {
	do(start)
	if more == 0 {
		return
	}
	for i := range len(bytes) {
		allTexts(start+bytes[i:i+1], bytes, more-1, do)
	}
}

// nearTexts calls do with s and with every text that comes from s by removing a byte, by doubling
// or exchanging parts, or by putting one of the texts of put in or in the place of a byte.
func nearTexts(s string, put []string, do func(string)) {
	do(s)
	for i := range len(s) + 1 {
		do(s[:i])
		do(s[i:])
		do(s[i:] + s[:i])
		for _, p := range put {
			do(s[:i] + p + s[i:])
		}
		if i == len(s) {
			continue
		}
		do(s[:i] + s[i+1:])
		for _, p := range put {
			do(s[:i] + p + s[i+1:])
		}
		if i+1 < len(s) {
			do(s[:i] + s[i+1:i+2] + s[i:i+1] + s[i+2:])
		}
	}
}

// strangeBytes are what stands in no text, or only in some places of it.
func strangeBytes() []string {
	return []string{
		"0", "1", "2", "9", "00", "10", "15", "16", " ", "  ", "-", "--", ":", ",", "+", "_", ".", "/", ";", "a", "x1",
		"\n", "\n\n", "\r", "\r\n", "\t", "\v", "\x00", "\x7f", "\x80", "\xff", "\u00a0", "\u00b2", "\u0661", "\uff11", "\u2212", "\u2028", "\ufeff",
	}
}

func TestTextExamples(t *testing.T) {
	if impl.MaxText != 800 {
		t.Error("MaxText", impl.MaxText)
	}
	if s := impl.GraphText(house()); s != "5: 0-1 0-3 1-2 2-3 2-4 3-4" {
		t.Errorf("GraphText: %q", s)
	}
	g, is := impl.TextGraph("2: 1-0")
	wantNone(t, "TextGraph", g, is)
	if s := impl.SetText([]int64{3, 0, 15}); s != "3,0,15" {
		t.Errorf("SetText: %q", s)
	}
	set, is := impl.TextSet("03")
	wantMissing(t, "TextSet", set, is)
	if s := impl.RowsText(house()); s != "01010\n10100\n01011\n10101\n00110\n" {
		t.Errorf("RowsText: %q", s)
	}
	for _, s := range []string{"1\n", "10\n00\n", "00\n01\n", "11\n11\n", "01010\n10100\n01111\n10101\n00110\n"} {
		g, is := impl.TextRows(s)
		wantNone(t, "TextRows", g, is)
	}
}

// Promise 5, from graphs to texts and back; different graphs have different texts.
func TestGraphsThereAndBack(t *testing.T) {
	list := append(someGraphs(), greatestSmall()...)
	for _, g := range append(list, allGraphs(5)...) {
		if s := impl.GraphText(g); s != trueText(g) {
			t.Fatalf("GraphText(%v): %q", g, s)
		}
		if s := impl.RowsText(g); s != trueRows(g) {
			t.Fatalf("RowsText(%v): %q", g, s)
		}
		back, is := impl.TextGraph(impl.GraphText(g))
		wantGraph(t, "TextGraph", back, is, g)
		back, is = impl.TextRows(impl.RowsText(g))
		wantGraph(t, "TextRows", back, is, g)
	}
}

// Promise 5, from slices to texts and back: every slice of up to three vertices, and longer ones.
func TestSlicesThereAndBack(t *testing.T) {
	list := [][]int64{nil, {}}
	for length := 1; length <= 3; length++ {
		list = append(list, allSlices(length, 0, impl.MaxV-1)...)
	}
	for n := 1; n <= impl.MaxV; n++ {
		list = append(list, someOrders(n)...)
		list = append(list, make([]int64, n), slices.Repeat([]int64{15}, n), slices.Repeat([]int64{9, 10}, n/2))
	}
	for _, s := range list {
		text := impl.SetText(s)
		if text != trueSet(s) {
			t.Fatalf("SetText(%v): %q", s, text)
		}
		back, is := impl.TextSet(text)
		wantFound(t, "TextSet", back, is, s...)
	}
}

// Promise 5, from texts: whatever is read is written again, and nothing else is read.
func TestEveryShortText(t *testing.T) {
	allTexts("", "0123:- ", 6, func(s string) { checkGraph(t, s) })
	allTexts("3: ", "012- ", 7, func(s string) { checkGraph(t, s) })
	allTexts("", "012,-6", 6, func(s string) { checkSet(t, s) })
	allTexts("", "01\n", 9, func(s string) { checkRows(t, s) })
	allTexts("", "012 \n", 6, func(s string) { checkRows(t, s) })
	allTexts("010\n1", "01\n", 8, func(s string) { checkRows(t, s) })
	allTexts("0110\n1001\n", "01\n", 10, func(s string) { checkRows(t, s) })
	all := ""
	for b := range 256 {
		all += string([]byte{byte(b)})
	}
	allTexts("", all, 2, func(s string) { checkAll(t, s) })
}

func TestTextsThatAreNearlyRight(t *testing.T) {
	graphs := []impl.Graph{house(), emptyGraph(1), emptyGraph(2), fullGraph(2), path3(), emptyGraph(10), emptyGraph(16), starGraph(12, 11), ringGraph(16, 1), fromEdges(16, [2]int{9, 10}, [2]int{10, 15}, [2]int{14, 15})}
	for _, g := range graphs {
		nearTexts(trueText(g), strangeBytes(), func(s string) { checkAll(t, s) })
	}
	for _, g := range graphs {
		nearTexts(trueRows(g), strangeBytes(), func(s string) { checkAll(t, s) })
	}
	for _, set := range [][]int64{{}, {0}, {15}, {3, 0, 15}, {10, 10, 10}, {1, 2, 1}, upTo(15), upTo(16), make([]int64, 16)} {
		nearTexts(trueSet(set), strangeBytes(), func(s string) { checkAll(t, s) })
	}
}

// Every other order of the edges of a graph is refused, and so is an edge that is listed twice or
// with its greater vertex first.
func TestEdgesInOneOrderOnly(t *testing.T) {
	words := []string{"0-1", "1-2", "2-10", "2-9", "1-10"}
	for _, list := range allLists(len(words), len(words)) {
		s := "11:"
		for _, i := range list {
			s += " " + words[i]
		}
		checkGraph(t, s)
		if _, is := impl.TextGraph(s); is != slices.Equal(list, []int64{0, 1, 4, 3, 2}) {
			t.Fatalf("TextGraph(%q): %v", s, is)
		}
	}
	for _, s := range []string{"3: 0-1 0-1", "3: 0-1 1-0", "3: 1-0", "3: 0-1 1-2 0-1", "3: 1-2 0-1", "3: 0-2 0-1", "11: 2-10 2-9", "3: 0-0", "3: 2-2", "3: 0-1 2-1"} {
		g, is := impl.TextGraph(s)
		wantNone(t, s, g, is)
	}
}

func TestTextsOfNoGraph(t *testing.T) {
	for _, s := range []string{
		"", " ", ":", "::", "5", "5:0-1", "5: ", " 5:", "5 :", "5:\n", "5: 0-1\n", "5: 0-1 ", "5:  0-1", "5: 0-1  0-2", "5:\t0-1",
		"0:", "-1:", "17:", "16: 0-16", "5: 0-5", "5: 4-5", "1: 0-1", "05:", "00:", "+5:", "5.0:", "0x5:", "1_0:", "5: 00-1", "5: 0-01", "5: +0-1", "5: 0-+1", "5: -0-1", "5: 0--1", "5: -1-2",
		"5: 0", "5: 0-", "5: -1", "5: -", "5: 0-1-2", "5: 0 1", "5: 0,1", "5; 0-1", "5: 0-1:", "5:: 0-1", "5: 5: 0-1", "5: a-b", "a:", "5: 0-1,0-2", "5:\r\n",
		"1000000000:", "4294967297:", "4294967301: 0-1", "9223372036854775807:", "9223372036854775808:", "18446744073709551617:", "18446744073709551621: 0-1",
		"5: 0-4294967297", "5: 4294967296-1", "5: 0-18446744073709551617", "5: 18446744073709551616-1", "5: 0-99999999999999999999999999",
	} {
		g, is := impl.TextGraph(s)
		wantNone(t, fmt.Sprintf("TextGraph(%q)", s), g, is)
	}
}

func TestTextsOfNoSlice(t *testing.T) {
	for _, s := range []string{
		"", " ", ",", ",,", "0,", ",0", "0,,1", "0, 1", "0 ,1", " 0", "0 ", "0\n", "0 1", "0;1", "-,", ",-", "--", "-0", "-1", "- ", "+1", "+0", "0,-", "-,0", "0,-1",
		"00", "01", "03", "0,01", "010", "1_0", "0x1", "1.0", "1e0", "a", "16", "0,16", "16,0", "17", "99", "100", "[0]", "{}", "nil", "0\x00", "\x000",
		"999999999", "1000000000", "4294967296", "4294967299", "9223372036854775807", "9223372036854775808", "18446744073709551616", "18446744073709551619", "0,18446744073709551616",
	} {
		set, is := impl.TextSet(s)
		wantMissing(t, fmt.Sprintf("TextSet(%q)", s), set, is)
	}
}

func TestTextsOfNoMatrix(t *testing.T) {
	for _, s := range []string{
		"", "0", "\n", "\n\n", "\n0\n", "0\n\n", "\n0", "1\n", "0\n0\n", "00\n", "00\n00", "00\n00\n\n", "00\n\n00\n", "00\n00\n00\n", "000\n000\n", "00\n0\n", "0\n00\n",
		"01\n10", "01\n00\n", "00\n10\n", "11\n10\n", "01\n11\n", "11\n11\n", "02\n20\n", "0a\na0\n", "0 1\n1 0\n", "01\r\n10\r\n", "01 \n10 \n", " 01\n10\n", "01\n10\n ", "01\n10\n\x00", "01\v10\v",
		"010\n101\n011\n", "010\n100\n001\n", "010\n001\n100\n", "0110\n", "01;10;", "0\u0661\n\u06610\n",
	} {
		g, is := impl.TextRows(s)
		wantNone(t, fmt.Sprintf("TextRows(%q)", s), g, is)
	}
}

// The longest texts are those of the greatest graphs and slices; one more of anything is too much.
func TestLongestTexts(t *testing.T) {
	most := fullGraph(impl.MaxV)
	if len(impl.GraphText(most)) != 573 || len(impl.RowsText(most)) != 272 {
		t.Error(len(impl.GraphText(most)), len(impl.RowsText(most)))
	}
	checkAll(t, trueText(most))
	checkAll(t, trueText(most)+" 14-15")
	checkAll(t, trueText(most)+" 15-16")
	checkAll(t, trueText(fullGraph(impl.MaxV+1)))
	checkAll(t, trueText(emptyGraph(impl.MaxV+1)))
	checkAll(t, trueRows(most))
	checkAll(t, trueRows(most)+strings.Repeat("0", 16)+"\n")
	checkAll(t, trueRows(fullGraph(impl.MaxV+1)))
	checkAll(t, trueRows(emptyGraph(impl.MaxV+1)))
	for n := impl.MaxV; n <= impl.MaxV+2; n++ {
		checkAll(t, trueSet(make([]int64, n)))
		checkAll(t, trueSet(slices.Repeat([]int64{15}, n)))
	}
}

// Texts as long as MaxText, longer, and very long ones are refused; some would be good but for
// what follows, or have only words that are good.
func TestTextsThatAreTooLong(t *testing.T) {
	starts := []string{trueText(house()), trueRows(house()), "3,0,15", "-", "16:", ""}
	more := []string{"0", " ", "\n", ",0", ",", "-", " 0-1", ":", "1", "9", "\x00", "10\n", "0\n", "0000000000000000\n"}
	for _, start := range starts {
		for _, m := range more {
			for _, size := range []int{impl.MaxText - 1, impl.MaxText, impl.MaxText + 1, 3 * impl.MaxText, 1000000} {
				s := start + strings.Repeat(m, size/len(m)+1)
				s = s[:size]
				g, is := impl.TextGraph(s)
				wantNone(t, "TextGraph", g, is)
				g, is = impl.TextRows(s)
				wantNone(t, "TextRows", g, is)
				set, is := impl.TextSet(s)
				wantMissing(t, "TextSet", set, is)
			}
		}
	}
	checkAll(t, "16:"+strings.Repeat(" 14-15", 10000))
	checkAll(t, strings.Repeat("0", 10000)+"5:")
}

func TestSlicesWithoutText(t *testing.T) {
	for _, far := range farVertices {
		for _, s := range [][]int64{{far}, {0, far}, {far, 0}, {15, far, 15}, append(upTo(15), far), append([]int64{far}, upTo(15)...)} {
			if text := impl.SetText(s); text != "" {
				t.Errorf("SetText(%v): %q", s, text)
			}
		}
	}
	for _, n := range []int{impl.MaxV + 1, impl.MaxV + 2, 2 * impl.MaxV, 256, 1000000} {
		if text := impl.SetText(make([]int64, n)); text != "" {
			t.Errorf("SetText of %d elements: %q", n, text)
		}
	}
	if text := impl.SetText(append(upTo(16), math.MinInt64)); text != "" {
		t.Errorf("SetText: %q", text)
	}
}

// The empty text stands for no graph and no slice, although the writers return it.
func TestTheEmptyText(t *testing.T) {
	for _, bad := range badGraphs() {
		if s := impl.GraphText(bad.g); s != "" {
			t.Errorf("GraphText of %s: %q", bad.name, s)
		}
		if s := impl.RowsText(bad.g); s != "" {
			t.Errorf("RowsText of %s: %q", bad.name, s)
		}
	}
	checkAll(t, "")
}

func TestEmptySlicesAreWrittenAlike(t *testing.T) {
	wide := []int64{7, 8, 9}
	for _, s := range [][]int64{nil, {}, wide[:0], wide[3:]} {
		if text := impl.SetText(s); text != "-" {
			t.Errorf("SetText(%v): %q", s, text)
		}
	}
	set, is := impl.TextSet("-")
	wantFound(t, "TextSet", set, is)
}

// Promise 35, for invalid arguments too.
func TestWrittenArgumentsStay(t *testing.T) {
	all := someGraphs()
	for _, bad := range badGraphs() {
		all = append(all, bad.g)
	}
	for _, g := range all {
		p, store := packedGraph(g)
		impl.GraphText(p)
		intact(t, "GraphText", p, store, g)
		impl.RowsText(p)
		intact(t, "RowsText", p, store, g)
	}
	for _, s := range [][]int64{nil, {}, {3, 0, 15}, {5, 5}, {16}, {-1, 2}, upTo(16), upTo(17), upTo(100)} {
		lists, store := packed([][]int64{s})
		_, want := packed([][]int64{s})
		impl.SetText(lists[0])
		if !slices.Equal(lists[0], s) || !slices.Equal(store, want) {
			t.Fatal("SetText changed its argument", lists, store)
		}
	}
}

// Promise 35: a text keeps its value when the argument is overwritten.
func TestTextsAreNewMemory(t *testing.T) {
	for _, g := range someGraphs() {
		p, store := packedGraph(g)
		text, matrix := impl.GraphText(p), impl.RowsText(p)
		for i := range store {
			store[i] = guard
		}
		clear(p.Next[:cap(p.Next)])
		if text != trueText(g) || matrix != trueRows(g) {
			t.Fatal("a text follows its graph", g)
		}
	}
	s := []int64{3, 0, 15}
	text := impl.SetText(s)
	clear(s)
	if text != "3,0,15" {
		t.Error("SetText", text)
	}
}

// textCalls read a text each; their lists are all that the function returns.
func textCalls(g impl.Graph, set []int64) map[string]func() [][]int64 {
	return map[string]func() [][]int64{
		"TextGraph": func() [][]int64 { back, _ := impl.TextGraph(trueText(g)); return back.Next },
		"TextRows":  func() [][]int64 { back, _ := impl.TextRows(trueRows(g)); return back.Next },
		"TextSet":   func() [][]int64 { back, _ := impl.TextSet(trueSet(set)); return [][]int64{back} },
	}
}

// Promise 35: the slices of a result are apart from each other and from those of another call, and
// writing over one result does not change the next.
func TestReadResultsAreApart(t *testing.T) {
	for _, g := range append(greatestSmall(), house(), emptyGraph(1), fullGraph(impl.MaxV), ringGraph(16, 1)) {
		for _, set := range [][]int64{{}, {3, 0, 15}, upTo(len(g.Next))} {
			for name, call := range textCalls(g, set) {
				first := call()
				want := copied(first)
				apart(t, name, append(slices.Clone(first), call()...))
				for _, list := range first {
					whole := list[:cap(list)]
					for i := range whole {
						whole[i] = guard
					}
				}
				clear(first[:cap(first)])
				if got := call(); !sameLists(got, want) {
					t.Fatal(name, "keeps its result", got, want)
				}
			}
		}
	}
}

// A graph that was read is one that the chapters before take.
func TestReadGraphsAreGraphs(t *testing.T) {
	g, is := impl.TextGraph("6: 0-1 0-3 1-2 2-3 2-4 3-4")
	wantGraph(t, "TextGraph", g, is, fromEdges(6, [2]int{0, 1}, [2]int{0, 3}, [2]int{1, 2}, [2]int{2, 3}, [2]int{2, 4}, [2]int{3, 4}))
	less, is := impl.CutVertex(g, 5)
	wantGraph(t, "CutVertex", less, is, house())
	if s := impl.GraphText(less); s != "5: 0-1 0-3 1-2 2-3 2-4 3-4" {
		t.Error(s)
	}
	m, is := impl.TextRows("0100\n1010\n0101\n0010\n")
	wantGraph(t, "TextRows", m, is, fromEdges(4, [2]int{0, 1}, [2]int{1, 2}, [2]int{2, 3}))
	wantList(t, "PathOf", impl.PathOf(m, 0, 3), 0, 1, 2, 3)
}
