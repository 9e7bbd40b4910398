package tests

import (
	"math/rand"
	"slices"
	"strings"
	"testing"

	"loop.example/g01054/impl"
)

func exampleParagraph() []int { return []int{12, 12, 10, 15} }

// noBreaks stands for breaks that are not there, as an empty text does for a paragraph of one line.
const noBreaks = "-"

// readBreaks reads breaks, separated by blanks, and whether there are any.
func readBreaks(text string) ([]int, bool) {
	if text == noBreaks {
		return nil, false
	}
	return readWidths(text), true
}

// manyBreaks returns breaks behind each n words of a paragraph.
func manyBreaks(words, n int) []int {
	var breaks []int
	for at := n; at < words; at += n {
		breaks = append(breaks, at)
	}
	return breaks
}

func validParagraphs() [][]int {
	lists := [][]int{counts(24, 1), counts(24, 600), counts(21, 1), counts(20, 47), rising(24, 600, -26), rising(24, 5, 3), withCount(counts(24, 1), 23, 600), withCount(counts(24, 40), 0, 600)}
	for _, text := range []string{"12 12 10 15", "1", "600", "86", "30 30 30", "12 14", "12 12 1 22 40", "10 10 10 10 10 50"} {
		lists = append(lists, readWidths(text))
	}
	return lists
}

func invalidParagraphs() [][]int {
	lists := [][]int{nil, {}, counts(25, 1), counts(25, 600), counts(26, 5), counts(40, 1), counts(1000, 5), counts(100000, 1), counts(25, 0), counts(24, 0)}
	for _, width := range append([]int{0, -1, -600, 601, 602}, farNumbers...) {
		lists = append(lists, []int{width}, []int{width, 12, 10, 15}, []int{12, width, 10, 15}, []int{12, 12, 10, width}, counts(24, width))
		// Behind the first 20 words too.
		for _, i := range []int{0, 1, 10, 19, 20, 21, 23} {
			lists = append(lists, withCount(counts(24, 1), i, width), withCount(counts(24, 600), i, width))
		}
	}
	return lists
}

// invalidBreaks returns lists that are no breaks of a paragraph of n words.
func invalidBreaks(n int) [][]int {
	lists := [][]int{upTo(n), upTo(n + 1), counts(n, 1), counts(100000, 1), rising(n, n, -1), {0}, {n}, {n + 1}, {-1}, {0, 1}, {0, 2}, {1, n}, {2, n}, {-1, 1}, {n - 1, n}, {1, 1}, {2, 2}, {2, 1}, {3, 2}, {n - 1, n - 1}, {n - 1, 1}, {1, 2, 2}, {2, 2, 3}, {1, 3, 2}, {1, 2, 0}, {1, 0, 2}, {1, 2, n}, {2, 1, 3}}
	for _, far := range farNumbers {
		lists = append(lists, []int{far}, []int{1, far}, []int{far, 1}, []int{far, far}, []int{1, far, 3}, []int{far, 2, 3})
	}
	return lists
}

var invalidLineCounts = append([]int{0, -1, -2, -24, 25, 26, 48}, farNumbers...)

func TestParagraphConstants(t *testing.T) {
	if impl.MaxParagraph != 24 {
		t.Error(impl.MaxParagraph)
	}
}

// paragraphCase tells the best breaks and their cost, the greedy ones, how many are possible, the fewest lines, and where the paragraph is stuck, -1 for nowhere.
type paragraphCase struct {
	words                []int
	rule                 string
	measure              int
	best                 string
	cost                 int
	greedy               string
	count, fewest, stuck int
}

var paragraphCases = []paragraphCase{
	{readWidths("12 12 10 15"), "3/5/8", 30, "2", 1, "2", 1, 2, -1},
	// One word.
	{readWidths("29"), "3/5/8", 30, "", 0, "", 1, 1, -1},
	{readWidths("30"), "3/5/8", 30, "", 0, "", 1, 1, -1},
	{readWidths("31"), "3/5/8", 30, noBreaks, 0, noBreaks, 0, 0, 0},
	{readWidths("1"), "54/54/54", 1, "", 0, "", 1, 1, -1},
	{readWidths("2"), "54/54/54", 1, noBreaks, 0, noBreaks, 0, 0, 0},
	{readWidths("600"), "3/5/8", 600, "", 0, "", 1, 1, -1},
	{readWidths("600"), "3/5/8", 599, noBreaks, 0, noBreaks, 0, 0, 0},
	{readWidths("1"), "3/5/8", 2000, "", 0, "", 1, 1, -1},
	// One line, as wide as the measure with Normal spaces, wider, and with Least spaces wider.
	{readWidths("5 5"), "3/5/8", 30, "", 0, "", 1, 1, -1},
	{readWidths("12 12"), "3/5/8", 30, "", 0, "", 1, 1, -1},
	{readWidths("12 13"), "3/5/8", 30, "", 0, "", 1, 1, -1},
	{readWidths("12 14"), "3/5/8", 30, noBreaks, 0, "", 0, 0, 0},
	{readWidths("12 15"), "3/5/8", 30, noBreaks, 0, "", 0, 0, 0},
	{readWidths("12 16"), "3/5/8", 30, noBreaks, 0, "1", 0, 0, 0},
	{readWidths("5 5 10"), "3/5/8", 30, "", 0, "", 1, 1, -1},
	{readWidths("5 5 11"), "3/5/8", 30, noBreaks, 0, "", 0, 0, 0},
	// A last line as wide as the measure, and one unit wider.
	{readWidths("12 12 10 16"), "3/5/8", 30, noBreaks, 0, "2", 0, 0, 2},
	{readWidths("12 12 25"), "3/5/8", 30, "2", 1, "2", 1, 2, -1},
	{readWidths("12 12 30"), "3/5/8", 30, "2", 1, "2", 1, 2, -1},
	{readWidths("12 12 31"), "3/5/8", 30, noBreaks, 0, noBreaks, 0, 0, 2},
	{readWidths("30 12 13"), "3/5/8", 30, "1", 0, "1", 1, 2, -1},
	{readWidths("30 12 14"), "3/5/8", 30, noBreaks, 0, "1", 0, 0, 1},
	// A word as wide as the measure, one unit narrower and wider.
	{readWidths("30 5"), "3/5/8", 30, "1", 0, "1", 1, 2, -1},
	{readWidths("29 5"), "3/5/8", 30, noBreaks, 0, "1", 0, 0, 0},
	{readWidths("31 5"), "3/5/8", 30, noBreaks, 0, noBreaks, 0, 0, 0},
	{readWidths("5 30"), "3/5/8", 30, noBreaks, 0, "1", 0, 0, 0},
	{readWidths("5 31"), "3/5/8", 30, noBreaks, 0, noBreaks, 0, 0, 0},
	{readWidths("30 30"), "3/5/8", 30, "1", 0, "1", 1, 2, -1},
	{readWidths("30 31"), "3/5/8", 30, noBreaks, 0, noBreaks, 0, 0, 1},
	{readWidths("30 30 30"), "3/5/8", 30, "1 2", 0, "1 2", 1, 3, -1},
	{readWidths("30 30 31"), "3/5/8", 30, noBreaks, 0, noBreaks, 0, 0, 2},
	{readWidths("30 29 30"), "3/5/8", 30, noBreaks, 0, "1 2", 0, 0, 1},
	{readWidths("12 12 30 12 12 5"), "3/5/8", 30, "2 3 5", 2, "2 3 5", 1, 4, -1},
	// Costs of 0.
	{readWidths("12 13 14 11 5"), "3/5/8", 30, "2 4", 0, "2 4", 1, 3, -1},
	{readWidths("12 13 14 11 15 10"), "3/5/8", 30, "2 4", 0, "2 4", 1, 3, -1},
	// The narrowest and the widest spaces, and one unit more.
	{readWidths("12 15 5"), "3/5/8", 30, "2", 4, "2", 1, 2, -1},
	{readWidths("12 16 5"), "3/5/8", 30, noBreaks, 0, "1", 0, 0, 0},
	{readWidths("12 10 25"), "3/5/8", 30, "2", 9, "2", 1, 2, -1},
	{readWidths("12 9 25"), "3/5/8", 30, noBreaks, 0, "2", 0, 0, 0},
	// Greedy breaks that are possible, but not the best.
	{readWidths("12 12 1 10"), "3/5/8", 31, "2", 4, "3", 2, 2, -1},
	{readWidths("12 12 1 12 12 1 10"), "3/5/8", 31, "2 5", 12, "3 6", 3, 3, -1}, // as good as before the fourth and the sixth one
	// Greedy breaks that are not possible, as a line is too loose, though others are.
	{readWidths("12 12 1 22 20 5"), "3/5/8", 31, "2 4", 13, "3 4", 1, 3, -1},
	// Several best breaks, of which the first ones are returned.
	{readWidths("10 10 7 5"), "1/5/54", 30, "2", 25, "3", 2, 2, -1},
	{readWidths("10 10 10 10 10 50"), "1/10/54", 50, "2 5", 400, "4 5", 2, 3, -1},
	{counts(8, 10), "1/10/54", 50, "3 6", 0, "4", 11, 3, -1},
	// The best breaks have more lines than others.
	{counts(6, 10), "1/10/54", 43, "2 5", 194, "4", 4, 2, -1},
	// Stuck at the first line, before the last one and between.
	{readWidths("10 10 10 10"), "3/5/8", 30, noBreaks, 0, "2", 0, 0, 0},
	{readWidths("10 30 30"), "3/5/8", 30, noBreaks, 0, "1 2", 0, 0, 0},
	{readWidths("12 13 14 12 40"), "3/5/8", 30, noBreaks, 0, noBreaks, 0, 0, 4},
	{readWidths("12 13 29 1"), "3/5/8", 30, noBreaks, 0, "2 3", 0, 0, 2},
	{readWidths("30 30 12 5 30"), "3/5/8", 30, noBreaks, 0, "1 2 4", 0, 0, 2},
	// Stuck behind other breaks than the greedy ones, and than the last ones that are tried.
	{readWidths("12 12 1 22 40"), "3/5/8", 31, noBreaks, 0, noBreaks, 0, 0, 4},
	{readWidths("12 12 1 22 29 5"), "3/5/8", 31, noBreaks, 0, "3 4 5", 0, 0, 4},
	{readWidths("10 10 10 10 10 51"), "1/10/54", 50, noBreaks, 0, noBreaks, 0, 0, 5},
	// Narrow and wide measures.
	{readWidths("1 1"), "1/1/1", 1, "1", 0, "1", 1, 2, -1},
	{readWidths("1 1 1"), "1/1/1", 2, noBreaks, 0, "1 2", 0, 0, 0},
	{readWidths("1 1 1"), "1/1/1", 3, "2", 0, "2", 1, 2, -1},
	{readWidths("1 1 1"), "1/1/1", 4, noBreaks, 0, "2", 0, 0, 0},
	{readWidths("1 1 1"), "1/1/1", 5, "", 0, "", 1, 1, -1},
	{readWidths("1 1 1"), "54/54/54", 56, "2", 0, "2", 1, 2, -1},
	{readWidths("600 600 600 38 600"), "1/1/54", 2000, "4", 8427, "4", 1, 2, -1},
	{readWidths("600 600 600 197"), "1/1/54", 2000, "", 0, "", 1, 1, -1},
	{readWidths("600 600 600 198"), "1/1/54", 2000, noBreaks, 0, "3", 0, 0, 0},
	{readWidths("600 600 600 198"), "1/1/54", 1900, "3", 4802, "3", 1, 2, -1},
	// Lines of 20 words, and of one more, which is possible neither before the last line nor as it.
	{counts(20, 1), "1/1/1", 39, "", 0, "", 1, 1, -1},
	{counts(20, 1), "1/1/1", 38, noBreaks, 0, "19", 0, 0, 0},
	{counts(21, 1), "1/1/1", 41, noBreaks, 0, "20", 0, 0, 0},
	{counts(21, 1), "1/1/1", 2000, noBreaks, 0, "20", 0, 0, 0},
	{counts(21, 1), "1/1/1", 39, "20", 0, "20", 1, 2, -1},
	{counts(21, 1), "1/1/2", 41, "20", 2, "20", 6, 2, -1},
	{append(counts(20, 1), 39), "1/1/1", 39, "20", 0, "20", 1, 2, -1},
	{append(counts(21, 1), 41), "1/1/1", 41, noBreaks, 0, "20 21", 0, 0, 0},
	{slices.Concat(counts(3, 600), counts(20, 1)), "54/54/54", 1908, "3", 0, "3", 1, 2, -1},
	{slices.Concat(counts(3, 600), counts(21, 1)), "54/54/54", 1908, noBreaks, 0, "3 23", 0, 0, 3},
	{slices.Concat(counts(3, 600), counts(21, 1)), "1/1/54", 1900, "20", 220, "20", 17, 2, -1},
	// MaxParagraph words.
	{counts(24, 1), "1/1/1", 39, "20", 0, "20", 1, 2, -1},
	{counts(24, 1), "1/1/1", 47, noBreaks, 0, "20", 0, 0, 0},
	{counts(24, 1), "1/1/1", 7, "4 8 12 16 20", 0, "4 8 12 16 20", 1, 6, -1},
	{counts(24, 1), "1/1/1", 9, "5 10 15 20", 0, "5 10 15 20", 1, 5, -1},
	{counts(24, 600), "3/5/8", 600, "1 2 3 4 5 6 7 8 9 10 11 12 13 14 15 16 17 18 19 20 21 22 23", 0, "1 2 3 4 5 6 7 8 9 10 11 12 13 14 15 16 17 18 19 20 21 22 23", 1, 24, -1},
	{append(counts(23, 30), 31), "3/5/8", 30, noBreaks, 0, noBreaks, 0, 0, 23},
	{append(counts(23, 30), 29), "3/5/8", 30, "1 2 3 4 5 6 7 8 9 10 11 12 13 14 15 16 17 18 19 20 21 22 23", 0, "1 2 3 4 5 6 7 8 9 10 11 12 13 14 15 16 17 18 19 20 21 22 23", 1, 24, -1},
	{append([]int{29}, counts(23, 30)...), "3/5/8", 30, noBreaks, 0, "1 2 3 4 5 6 7 8 9 10 11 12 13 14 15 16 17 18 19 20 21 22 23", 0, 0, 0},
}

func TestParagraphs(t *testing.T) {
	for _, c := range paragraphCases {
		r := readRule(c.rule)
		want, possible := readBreaks(c.best)
		if l, n, ok := impl.BestBreaks(c.words, r, c.measure); !slices.Equal(l, want) || n != c.cost || ok != possible {
			t.Errorf("%v with %s for %d: best %v %d %v, want %s at %d", c.words, c.rule, c.measure, l, n, ok, c.best, c.cost)
		}
		if n, ok := impl.CostOfBreaks(c.words, r, c.measure, want); possible && (n != c.cost || !ok) {
			t.Errorf("%v with %s for %d: %v cost %d %v, want %d", c.words, c.rule, c.measure, want, n, ok, c.cost)
		}
		greedy, canBeBroken := readBreaks(c.greedy)
		if l, ok := impl.GreedyBreaks(c.words, r, c.measure); !slices.Equal(l, greedy) || ok != canBeBroken {
			t.Errorf("%v with %s for %d: greedy %v %v, want %s", c.words, c.rule, c.measure, l, ok, c.greedy)
		}
		if n, ok := impl.CountBreaks(c.words, r, c.measure); n != c.count || !ok {
			t.Errorf("%v with %s for %d: %d possible %v, want %d", c.words, c.rule, c.measure, n, ok, c.count)
		}
		if n, ok := impl.FewestLines(c.words, r, c.measure); n != c.fewest || ok != possible {
			t.Errorf("%v with %s for %d: %d lines %v, want %d", c.words, c.rule, c.measure, n, ok, c.fewest)
		}
		if n, ok := impl.StuckAt(c.words, r, c.measure); n != max(c.stuck, 0) || ok != (c.stuck >= 0) {
			t.Errorf("%v with %s for %d: stuck at %d %v, want %d", c.words, c.rule, c.measure, n, ok, c.stuck)
		}
		// The fewest lines and the best ones are not always the same.
		for lines := 1; lines < c.fewest; lines++ {
			refuseLineCount(t, c.words, r, c.measure, lines)
		}
		if l, n, ok := impl.BestWithLines(c.words, r, c.measure, len(want)+1); possible && (!slices.Equal(l, want) || n != c.cost || !ok) {
			t.Errorf("%v with %s for %d in %d lines: %v %d %v, want %s at %d", c.words, c.rule, c.measure, len(want)+1, l, n, ok, c.best, c.cost)
		}
	}
}

// TestCostOfBreaks tells the cost of possible breaks, -1 for others.
func TestCostOfBreaks(t *testing.T) {
	cases := []struct {
		words   []int
		rule    string
		measure int
		breaks  string
		cost    int
	}{
		{exampleParagraph(), "3/5/8", 30, "2", 1},
		{exampleParagraph(), "3/5/8", 30, "", -1},
		{exampleParagraph(), "3/5/8", 30, "1", -1},
		{exampleParagraph(), "3/5/8", 30, "3", -1},
		{exampleParagraph(), "3/5/8", 30, "1 2", -1},
		{exampleParagraph(), "3/5/8", 30, "2 3", -1},
		{exampleParagraph(), "3/5/8", 30, "1 2 3", -1},
		{exampleParagraph(), "3/5/8", 64, "", 0},
		{exampleParagraph(), "3/5/8", 63, "", -1},
		{exampleParagraph(), "3/5/8", 31, "2", 4},
		{exampleParagraph(), "3/5/8", 29, "2", -1}, // the last line is too wide
		// One word.
		{[]int{30}, "3/5/8", 30, "", 0},
		{[]int{30}, "3/5/8", 31, "", 0},
		{[]int{30}, "3/5/8", 29, "", -1},
		// The last line alone costs nothing, and only it may be looser.
		{readWidths("12 13"), "3/5/8", 30, "", 0},
		{readWidths("12 14"), "3/5/8", 30, "", -1},
		{readWidths("5 5"), "3/5/8", 30, "", 0},
		{readWidths("5 5"), "3/5/8", 30, "1", -1},
		{readWidths("30 5"), "3/5/8", 30, "1", 0},
		{readWidths("30 30 30"), "3/5/8", 30, "1 2", 0},
		{readWidths("30 30 30"), "3/5/8", 30, "1", -1},
		{readWidths("30 30 30"), "3/5/8", 30, "2", -1},
		{readWidths("30 30 30"), "3/5/8", 30, "", -1},
		// Each line counts.
		{readWidths("12 12 1 10"), "3/5/8", 31, "2", 4},
		{readWidths("12 12 1 10"), "3/5/8", 31, "3", 8},
		{readWidths("12 12 1 10"), "3/5/8", 31, "2 3", -1},
		{readWidths("12 12 1 12 12 1 10"), "3/5/8", 31, "3 6", 16},
		{readWidths("12 12 1 12 12 1 10"), "3/5/8", 31, "3 5", 12},
		{counts(8, 10), "1/10/54", 50, "3 6", 0},
		{counts(8, 10), "1/10/54", 50, "4 7", 134},
		{counts(8, 10), "1/10/54", 50, "2 5", 400},
		{counts(8, 10), "1/10/54", 50, "3 5", 400},
		{counts(8, 10), "1/10/54", 50, "4 6", 534},
		{counts(8, 10), "1/10/54", 50, "2 6", 534},
		{counts(8, 10), "1/10/54", 50, "2 4 7", 800},
		{counts(8, 10), "1/10/54", 50, "3 5 7", 800},
		{counts(8, 10), "1/10/54", 50, "2 4 6", 1200},
		{counts(8, 10), "1/10/54", 50, "4", -1},
		{counts(8, 10), "1/10/54", 50, "5", -1},
		{counts(8, 10), "1/10/54", 50, "5 7", -1},
		{counts(8, 10), "1/10/54", 50, "2 7", -1},
		{counts(8, 10), "1/10/54", 50, "3 6 7", -1},
		{counts(8, 10), "1/10/54", 50, "1 4 7", -1},
		// Lines of 20 words, and of one more.
		{counts(24, 1), "1/1/54", 60, "20", 25},
		{counts(24, 1), "1/1/54", 60, "21", -1},
		{counts(24, 1), "1/1/54", 60, "4", 937},
		{counts(24, 1), "1/1/54", 60, "3", -1},
		{counts(24, 1), "1/1/54", 60, "", -1},
		{counts(24, 1), "1/1/54", 56, "2 22", 2826},
		{counts(24, 1), "1/1/54", 56, "2 23", -1},
		{counts(24, 1), "1/1/54", 56, "2 4 23", 5639},
		{counts(24, 1), "1/1/54", 58, "2 4 6 8 10 12 14 16 18 20 22", -1},
		{counts(24, 1), "1/1/54", 56, "2 4 6 8 10 12 14 16 18 20 22", 11 * 53 * 53},
		{counts(24, 1), "1/1/54", 1, "1 2 3 4 5 6 7 8 9 10 11 12 13 14 15 16 17 18 19 20 21 22 23", 0},
	}
	for _, c := range cases {
		if n, ok := impl.CostOfBreaks(c.words, readRule(c.rule), c.measure, readWidths(c.breaks)); n != max(c.cost, 0) || ok != (c.cost >= 0) {
			t.Errorf("%v with %s for %d broken before %s: %d %v, want %d", c.words, c.rule, c.measure, c.breaks, n, ok, c.cost)
		}
	}
}

func TestBestWithLines(t *testing.T) {
	cases := []struct {
		words   []int
		rule    string
		measure int
		lines   int
		best    string
		cost    int
	}{
		{exampleParagraph(), "3/5/8", 30, 1, noBreaks, 0},
		{exampleParagraph(), "3/5/8", 30, 2, "2", 1},
		{exampleParagraph(), "3/5/8", 30, 3, noBreaks, 0},
		{exampleParagraph(), "3/5/8", 30, 4, noBreaks, 0},
		{exampleParagraph(), "3/5/8", 30, 5, noBreaks, 0}, // more than there are words
		{exampleParagraph(), "3/5/8", 30, 24, noBreaks, 0},
		{exampleParagraph(), "3/5/8", 64, 1, "", 0},
		{exampleParagraph(), "3/5/8", 63, 1, noBreaks, 0},
		{exampleParagraph(), "3/5/8", 64, 2, noBreaks, 0},
		{[]int{30}, "3/5/8", 30, 1, "", 0},
		{[]int{30}, "3/5/8", 30, 2, noBreaks, 0},
		{[]int{31}, "3/5/8", 30, 1, noBreaks, 0},
		{readWidths("30 30 30"), "3/5/8", 30, 2, noBreaks, 0},
		{readWidths("30 30 30"), "3/5/8", 30, 3, "1 2", 0},
		{readWidths("30 30 30"), "3/5/8", 30, 4, noBreaks, 0},
		// The best breaks have three lines; those with more cost more, and several of them as much.
		{counts(8, 10), "1/10/54", 50, 1, noBreaks, 0},
		{counts(8, 10), "1/10/54", 50, 2, noBreaks, 0},
		{counts(8, 10), "1/10/54", 50, 3, "3 6", 0},
		{counts(8, 10), "1/10/54", 50, 4, "2 4 7", 800},
		{counts(8, 10), "1/10/54", 50, 5, noBreaks, 0},
		// The best breaks have more lines than others.
		{counts(6, 10), "1/10/54", 43, 1, noBreaks, 0},
		{counts(6, 10), "1/10/54", 43, 2, "4", 243},
		{counts(6, 10), "1/10/54", 43, 3, "2 5", 194},
		{counts(6, 10), "1/10/54", 43, 4, noBreaks, 0},
		{counts(7, 10), "1/10/54", 43, 2, noBreaks, 0},
		{counts(7, 10), "1/10/54", 43, 3, "3 6", 50},
		{counts(7, 10), "1/10/54", 43, 4, "2 4 6", 507},
		{counts(24, 1), "1/1/1", 1, 24, "1 2 3 4 5 6 7 8 9 10 11 12 13 14 15 16 17 18 19 20 21 22 23", 0},
		{counts(24, 1), "1/1/1", 1, 23, noBreaks, 0},
		{counts(24, 1), "1/1/54", 56, 12, "2 4 6 8 10 12 14 16 18 20 23", 10*53*53 + 26*26 + 25*25},
		{counts(24, 1), "1/1/54", 56, 13, noBreaks, 0},
		{counts(24, 1), "1/1/54", 56, 2, "20", 17},
		{counts(24, 1), "1/1/54", 56, 1, noBreaks, 0},
	}
	for _, c := range cases {
		want, possible := readBreaks(c.best)
		if l, n, ok := impl.BestWithLines(c.words, readRule(c.rule), c.measure, c.lines); !slices.Equal(l, want) || n != c.cost || ok != possible {
			t.Errorf("%v with %s for %d in %d lines: %v %d %v, want %s at %d", c.words, c.rule, c.measure, c.lines, l, n, ok, c.best, c.cost)
		}
	}
}

func TestLinesOfBreaks(t *testing.T) {
	cases := []struct{ words, breaks, lines string }{
		{"12 12 10 15", "2", "12 12/10 15"},
		{"12 12 10 15", "", "12 12 10 15"},
		{"12 12 10 15", "1", "12/12 10 15"},
		{"12 12 10 15", "3", "12 12 10/15"},
		{"12 12 10 15", "1 3", "12/12 10/15"},
		{"12 12 10 15", "1 2 3", "12/12/10/15"},
		{"7", "", "7"},
		{"600", "", "600"},
		{"1 600", "1", "1/600"},
		{"1 600", "", "1 600"},
	}
	for _, c := range cases {
		if l, ok := impl.LinesOfBreaks(readWidths(c.words), readWidths(c.breaks)); !equalLists(l, readCountLists(c.lines)) || !ok {
			t.Errorf("%s broken before %s: %v %v, want %s", c.words, c.breaks, l, ok, c.lines)
		}
	}
	// Lines of more than 20 words too.
	words := rising(24, 10, 1)
	for at := range 24 {
		breaks, want := []int{at}, [][]int{words[:at], words[at:]}
		if at == 0 {
			breaks, want = nil, [][]int{words}
		}
		if l, ok := impl.LinesOfBreaks(words, breaks); !equalLists(l, want) || !ok {
			t.Errorf("24 words broken before %d: %v %v", at, l, ok)
		}
	}
	if l, ok := impl.LinesOfBreaks(words, upTo(24)[1:]); !equalLists(l, slices.Collect(slices.Chunk(words, 1))) || !ok {
		t.Errorf("24 words broken before each one: %v %v", l, ok)
	}
}

func TestBreakWords(t *testing.T) {
	eleven := strings.Repeat("z", 11) // 594 units
	cases := []struct {
		font, words, rule string
		measure           int
		breaks            string
	}{
		{"a12", "a a a", "3/5/8", 30, "2"},
		{"a12 b10 c15", "a a b c", "3/5/8", 30, "2"},
		{"a12", "a", "3/5/8", 12, ""},
		{"a12", "a", "3/5/8", 11, noBreaks},
		{"a12", "a a", "3/5/8", 29, ""},
		{"a12", "a a", "3/5/8", 28, noBreaks},
		{"a12", "a a", "3/5/8", 12, "1"},
		{"a12", "a a a", "3/5/8", 27, "2"},
		{"a12", "a a a", "3/5/8", 26, noBreaks},
		{"a10 b7 c5", "a a b c", "1/5/54", 30, "2"}, // as good as before the fourth one
		// Set with ligatures: 20, 25, 11 and 21 units.
		{"f6 ff11 ffi15 fi10 n10", "fin ffin ff fffi", "3/5/8", 50, "2"},
		{"f6 ff11 ffi15 fi10 n10", "fin ffin ff fffi", "3/5/8", 45, noBreaks},
		{"f6 fi10 i5 n10", "fin fin fin", "3/5/8", 45, "2"},
		{"f6 i5 n10", "fin fin fin", "3/5/8", 47, "2"},
		{"f6 ff20", "ff ff f", "3/5/8", 45, "2"}, // a ligature wider than its letters
		// A word that cannot be set.
		{"a12", "b", "3/5/8", 30, noBreaks},
		{"a12", "a a b", "3/5/8", 30, noBreaks},
		{"a12", "b a a", "3/5/8", 30, noBreaks},
		{"a12", "a ab a", "3/5/8", 30, noBreaks},
		{"a5 ab9 bc7", "abc", "3/5/8", 100, noBreaks}, // though a and bc would be possible
		{"a5 ab9 bc7", "a bc", "3/5/8", 100, ""},
		// No word.
		{"a12", "", "3/5/8", 30, noBreaks},
		// As wide as a word of a paragraph may be, and wider.
		{"f6 g7 n10 z54", eleven + "f", "3/5/8", 600, ""},
		{"f6 g7 n10 z54", eleven + "g", "3/5/8", 601, noBreaks},
		{"f6 g7 n10 z54", eleven + "g", "3/5/8", 2000, noBreaks},
		{"f6 g7 n10 z54", eleven + "f n", "3/5/8", 600, "1"},
		{"f6 g7 n10 z54", "n " + eleven + "g", "3/5/8", 2000, noBreaks},
		{"z54", "zzzzzzzzzzzzzzzz", "3/5/8", 864, noBreaks},
		{"z54", "zzzzzzzzzzzzzzzzz", "3/5/8", 918, noBreaks}, // no word
	}
	for _, c := range cases {
		want, can := readBreaks(c.breaks)
		if l, ok := impl.BreakWords(font(copyOf(c.font)...), copyOf(c.words), readRule(c.rule), c.measure); !slices.Equal(l, want) || ok != can {
			t.Errorf("%s set in %s with %s for %d: %v %v, want %s", c.words, c.font, c.rule, c.measure, l, ok, c.breaks)
		}
	}
}

func TestBreakManyWords(t *testing.T) {
	for n := range 45 {
		l, ok := impl.BreakWords(exampleFont(), manyWords(n), exampleRule(), 45)
		valid := n >= 1 && n <= 24
		want := manyBreaks(n, 2)
		if !valid {
			want = nil
		}
		if !slices.Equal(l, want) || ok != valid {
			t.Errorf("%d words: %v %v", n, l, ok)
		}
	}
	for i := range 24 {
		words := manyWords(24)
		words[i] = "fan"
		refuseToBreak(t, exampleFont(), words, exampleRule(), 45)
		words[i] = "n"
		if l, ok := impl.BreakWords(exampleFont(), words, readRule("3/5/54"), 45); !slices.Equal(l, manyBreaks(24, 2)) || !ok {
			t.Errorf("24 words, the one with the index %d shorter: %v %v", i, l, ok)
		}
	}
}

// TestBreakWordsOfFonts uses fonts of all sizes, also those with more sorts than a paragraph has words.
func TestBreakWordsOfFonts(t *testing.T) {
	for n := range 40 {
		l, ok := impl.BreakWords(pairs(n), copyOf("aa aa aa"), readRule("1/1/1"), 3)
		valid := n >= 1 && n <= 32
		if ok != valid || valid && !slices.Equal(l, []int{2}) || !valid && len(l) != 0 {
			t.Errorf("font of %d sorts: %v %v", n, l, ok)
		}
	}
}

// paragraphWay is a way to break a paragraph, or a rest of it.
type paragraphWay struct {
	possible bool
	cost     int
	breaks   []int
}

// paragraphWays is what is reckoned of a paragraph; the best ways are by the number of lines, and at 0 of any number.
type paragraphWays struct {
	count, stuck int
	best         [25]paragraphWay
}

// take keeps a way where it is better than the one before.
func (x *paragraphWays) take(cost int, breaks []int) {
	for _, i := range []int{0, len(breaks) + 1} {
		if old := x.best[i]; !old.possible || cost < old.cost || cost == old.cost && slices.Compare(breaks, old.breaks) < 0 {
			x.best[i] = paragraphWay{true, cost, breaks}
		}
	}
}

// reckonLine tells the cost of a line that is not the last one.
func reckonLine(words []int, r impl.Rule, measure int) (int, bool) {
	if len(words) > 20 {
		return 0, false
	}
	spaces, why := dealtSpaces(words, r, measure)
	return costOfSpaces(spaces, r.Normal), why == impl.LineFits
}

// canBeLast reports whether a line can be the last one.
func canBeLast(words []int, r impl.Rule, measure int) bool {
	return len(words) <= 20 && sumOfCounts(words)+(len(words)-1)*r.Normal <= measure
}

// allBreaks goes through all breaks of n words, whether they are possible or not.
func allBreaks(n int, use func(breaks []int)) {
	for code := range 1 << (n - 1) {
		var breaks []int
		for i := 1; i < n; i++ {
			if code>>(i-1)&1 == 1 {
				breaks = append(breaks, i)
			}
		}
		use(breaks)
	}
}

// tryAllBreaks goes through all breaks, and checks their costs.
func tryAllBreaks(t *testing.T, words []int, r impl.Rule, measure int) paragraphWays {
	t.Helper()
	var x paragraphWays
	allBreaks(len(words), func(breaks []int) {
		cost, from, possible := 0, 0, true
		for _, at := range breaks {
			line, justified := reckonLine(words[from:at], r, measure)
			cost, from, possible = cost+line, at, possible && justified
			if possible {
				x.stuck = max(x.stuck, at)
			}
		}
		if possible = possible && canBeLast(words[from:], r, measure); possible {
			x.count++
			x.take(cost, breaks)
		} else {
			cost = 0
		}
		if n, ok := impl.CostOfBreaks(words, r, measure, breaks); n != cost || ok != possible {
			t.Fatalf("%v with %v for %d broken before %v: %d %v, want %d %v", words, r, measure, breaks, n, ok, cost, possible)
		}
	})
	return x
}

// waysFromEnd finds the best ways for each rest of a paragraph from those for shorter rests.
func waysFromEnd(words []int, r impl.Rule, measure int) paragraphWays {
	rests := make([]paragraphWays, len(words))
	ends := map[int]bool{0: true}
	for from := len(words) - 1; from >= 0; from-- {
		if canBeLast(words[from:], r, measure) {
			rests[from].count = 1
			rests[from].take(0, nil)
		}
		for at := from + 1; at < len(words); at++ {
			line, justified := reckonLine(words[from:at], r, measure)
			if !justified {
				continue
			}
			rests[from].count += rests[at].count
			for _, way := range rests[at].best[1:] {
				if way.possible {
					rests[from].take(line+way.cost, append([]int{at}, way.breaks...))
				}
			}
		}
	}
	for from := range words {
		for at := from + 1; at < len(words) && ends[from]; at++ {
			if _, justified := reckonLine(words[from:at], r, measure); justified {
				ends[at] = true
				rests[0].stuck = max(rests[0].stuck, at)
			}
		}
	}
	return rests[0]
}

// greedyByHand puts one word after the other into the line as long as it fits.
func greedyByHand(words []int, r impl.Rule, measure int) ([]int, bool) {
	var breaks []int
	from := 0
	for i, width := range words {
		if width > measure {
			return nil, false
		}
		if i > from && (i == from+20 || sumOfCounts(words[from:i+1])+(i-from)*r.Least > measure) {
			breaks = append(breaks, i)
			from = i
		}
	}
	return breaks, true
}

// paragraphKinds counts what kinds of paragraphs were checked.
type paragraphKinds struct {
	possible, stuckFirst, stuckLater, several, greedyBest, greedyWorse, greedyImpossible, moreLines int
}

// checkParagraph checks what is told of a paragraph.
func checkParagraph(t *testing.T, words []int, r impl.Rule, measure int, x paragraphWays, kinds *paragraphKinds) {
	t.Helper()
	checkWay := func(name string, breaks []int, cost int, ok bool, want paragraphWay) {
		t.Helper()
		if !slices.Equal(breaks, want.breaks) || cost != want.cost || ok != want.possible {
			t.Fatalf("%v with %v for %d: %s %v %d %v, want %v", words, r, measure, name, breaks, cost, ok, want)
		}
	}
	best := x.best[0]
	breaks, cost, ok := impl.BestBreaks(words, r, measure)
	checkWay("best", breaks, cost, ok, best)
	if n, ok := impl.CostOfBreaks(words, r, measure, breaks); n != best.cost || ok != best.possible {
		t.Fatalf("%v with %v for %d: best breaks %v cost %d %v", words, r, measure, breaks, n, ok)
	}
	fewest := 0
	for lines := 1; lines <= 24; lines++ {
		breaks, cost, ok := impl.BestWithLines(words, r, measure, lines)
		checkWay("best with lines", breaks, cost, ok, x.best[lines])
		if ok && fewest == 0 {
			fewest = lines
		}
	}
	if n, ok := impl.FewestLines(words, r, measure); n != fewest || ok != best.possible {
		t.Fatalf("%v with %v for %d: fewest lines %d %v, want %d", words, r, measure, n, ok, fewest)
	}
	if n, ok := impl.CountBreaks(words, r, measure); n != x.count || !ok {
		t.Fatalf("%v with %v for %d: %d possible %v, want %d", words, r, measure, n, ok, x.count)
	}
	stuck := x.stuck
	if best.possible {
		stuck = 0
	}
	if n, ok := impl.StuckAt(words, r, measure); n != stuck || ok == best.possible {
		t.Fatalf("%v with %v for %d: stuck at %d %v, want %d", words, r, measure, n, ok, stuck)
	}
	greedy, broken := greedyByHand(words, r, measure)
	if l, ok := impl.GreedyBreaks(words, r, measure); !slices.Equal(l, greedy) || ok != broken {
		t.Fatalf("%v with %v for %d: greedy %v %v, want %v", words, r, measure, l, ok, greedy)
	}
	greedyCost, greedyPossible := impl.CostOfBreaks(words, r, measure, greedy)
	kinds.count(x, stuck, fewest, greedyCost, greedyPossible && broken)
}

// count counts a paragraph that was checked.
func (k *paragraphKinds) count(x paragraphWays, stuck, fewest, greedyCost int, greedyPossible bool) {
	best := x.best[0]
	if !best.possible {
		if stuck == 0 {
			k.stuckFirst++
		} else {
			k.stuckLater++
		}
		return
	}
	k.possible++
	if x.count > 1 {
		k.several++
	}
	if fewest < len(best.breaks)+1 {
		k.moreLines++
	}
	switch {
	case !greedyPossible:
		k.greedyImpossible++
	case greedyCost > best.cost:
		k.greedyWorse++
	default:
		k.greedyBest++
	}
}

func (k paragraphKinds) least() int {
	return min(k.possible, k.stuckFirst, k.stuckLater, k.several, k.greedyBest, k.greedyWorse, k.greedyImpossible, k.moreLines)
}

// TestAllSmallParagraphs goes over all paragraphs of at most five words up to 3 wide, with several rules and all measures up to 12.
func TestAllSmallParagraphs(t *testing.T) {
	var kinds paragraphKinds
	for _, rule := range []string{"1/1/1", "1/1/2", "1/2/3", "2/2/2", "1/3/3", "1/2/5"} {
		r := readRule(rule)
		for n := 1; n <= 5; n++ {
			words := counts(n, 1)
			for i := 0; i < n; {
				for measure := 1; measure <= 12; measure++ {
					checkParagraph(t, words, r, measure, tryAllBreaks(t, words, r, measure), &kinds)
				}
				// The next paragraph, as if its words were digits.
				for i = 0; i < n; i++ {
					words[i]++
					if words[i] <= 3 {
						break
					}
					words[i] = 1
				}
			}
		}
	}
	if kinds.least() < 30 {
		t.Errorf("too few: %+v", kinds)
	}
}

// randomParagraph returns words and a measure for which some of them fill a line with spaces of a rule.
func randomParagraph(r *rand.Rand, n int, rule impl.Rule) ([]int, int) {
	most := []int{5, 20, 60, 300}[r.Intn(4)]
	words := make([]int, n)
	for i := range words {
		words[i] = 1 + r.Intn(most)
	}
	line := words[:1+r.Intn(min(n, 20))]
	measure := sumOfCounts(line) + (len(line)-1)*(rule.Least+r.Intn(rule.Most-rule.Least+1))
	measure = min(max(measure, slices.Max(words)), 2000)
	// Some words are as wide as the measure, or a little wider or narrower.
	for i := range words {
		if r.Intn(20) == 0 {
			words[i] = min(max(measure+[]int{0, 0, 0, -1, 1}[r.Intn(5)], 1), 600)
		}
	}
	return words, measure
}

// TestRandomSmallParagraphs compares with all breaks.
func TestRandomSmallParagraphs(t *testing.T) {
	r := rand.New(rand.NewSource(131))
	var kinds paragraphKinds
	for range 6000 {
		rule := randomRule(r)
		words, measure := randomParagraph(r, 1+r.Intn(9), rule)
		x := tryAllBreaks(t, words, rule, measure)
		checkParagraph(t, words, rule, measure, x, &kinds)
		if y := waysFromEnd(words, rule, measure); y.count != x.count || y.stuck != x.stuck || !slices.Equal(y.best[0].breaks, x.best[0].breaks) {
			t.Fatalf("%v with %v for %d: all breaks %v, from the end %v", words, rule, measure, x, y)
		}
	}
	if kinds.least() < 50 {
		t.Errorf("too few: %+v", kinds)
	}
}

func TestRandomParagraphs(t *testing.T) {
	r := rand.New(rand.NewSource(132))
	var kinds paragraphKinds
	for range 6000 {
		rule := randomRule(r)
		words, measure := randomParagraph(r, 10+r.Intn(15), rule)
		checkParagraph(t, words, rule, measure, waysFromEnd(words, rule, measure), &kinds)
	}
	if kinds.least() < 50 {
		t.Errorf("too few: %+v", kinds)
	}
}

// TestEqualWords uses words of the same width, so that many breaks cost the same.
func TestEqualWords(t *testing.T) {
	var kinds paragraphKinds
	for n := 1; n <= 24; n += 1 + n/8 {
		for _, rule := range []string{"1/2/3", "1/10/54", "3/5/8", "2/2/9", "1/9/9"} {
			for measure := 1; measure <= 80; measure += 1 + measure%3 {
				for _, width := range []int{1, 4, 10} {
					words := counts(n, width)
					checkParagraph(t, words, readRule(rule), measure, waysFromEnd(words, readRule(rule), measure), &kinds)
				}
			}
		}
	}
	if min(kinds.possible, kinds.several, kinds.stuckFirst, kinds.moreLines) < 100 {
		t.Errorf("too few: %+v", kinds)
	}
}

// TestManyBreaks uses paragraphs with about as many possible breaks as there can be.
func TestManyBreaks(t *testing.T) {
	var kinds paragraphKinds
	most := 0
	for n := 20; n <= 24; n++ {
		for _, rule := range []string{"1/27/54", "1/1/54", "1/54/54", "1/9/54"} {
			for _, last := range []int{1, 50, 51} {
				words := withCount(counts(n, 1), n-1, last)
				x := waysFromEnd(words, readRule(rule), 50)
				checkParagraph(t, words, readRule(rule), 50, x, &kinds)
				most = max(most, x.count)
			}
		}
	}
	if most < 40000 {
		t.Error("at most", most, "possible breaks")
	}
	// Each line has two words or more, and the last one at most two: the number for 24 words is a Fibonacci number, but four with a line of more than 20.
	if n, ok := impl.CountBreaks(counts(24, 1), readRule("1/27/54"), 50); n != 28657-4 || !ok {
		t.Error("possible breaks of 24 words:", n, ok)
	}
}

// TestLinesMakeUpParagraphs checks all breaks of paragraphs of at most ten words.
func TestLinesMakeUpParagraphs(t *testing.T) {
	for n := 1; n <= 10; n++ {
		words := rising(n, 7, 9)
		allBreaks(n, func(breaks []int) {
			lines, ok := impl.LinesOfBreaks(words, breaks)
			if !ok || len(lines) != len(breaks)+1 || !slices.Equal(slices.Concat(lines...), words) {
				t.Fatalf("%v broken before %v: %v %v", words, breaks, lines, ok)
			}
			for i, at := range breaks {
				if len(lines[i]) == 0 || lines[i+1][0] != words[at] {
					t.Fatalf("%v broken before %v: %v", words, breaks, lines)
				}
			}
		})
	}
}

// TestRandomWordsToBreak sets words of random fonts by independent reckoning.
func TestRandomWordsToBreak(t *testing.T) {
	r := rand.New(rand.NewSource(133))
	broken, stuck, cannot := 0, 0, 0
	for range 8000 {
		f, rule := randomFont(r), randomRule(r)
		var words []string
		var widths []int
		canAll := true
		for range 1 + r.Intn(10) {
			word := randomLetters(r, 5)
			sorts, can := settingOf(f, word)
			for try := 0; !can && try < 20; try++ {
				word = randomLetters(r, 5)
				sorts, can = settingOf(f, word)
			}
			canAll = canAll && can
			words = append(words, word)
			widths = append(widths, widthOf(f, sorts))
		}
		measure := 1 + r.Intn(100)
		var want paragraphWay
		if canAll {
			want = waysFromEnd(widths, rule, measure).best[0]
		}
		if l, ok := impl.BreakWords(f, words, rule, measure); !slices.Equal(l, want.breaks) || ok != want.possible {
			t.Fatalf("%v of %v with %v for %d: %v %v, want %v", words, f, rule, measure, l, ok, want)
		}
		switch {
		case !canAll:
			cannot++
		case !want.possible:
			stuck++
		case len(want.breaks) > 0:
			broken++
		}
	}
	if min(broken, stuck, cannot) < 200 {
		t.Error("too few:", broken, stuck, cannot)
	}
}

// refuseBreaks checks that no function takes the breaks.
func refuseBreaks(t *testing.T, words []int, r impl.Rule, measure int, breaks []int) {
	t.Helper()
	if n, ok := impl.CostOfBreaks(words, r, measure, breaks); n != 0 || ok {
		t.Errorf("%.100v with %v for %d broken before %.100v: %d %v", words, r, measure, breaks, n, ok)
	}
}

func refuseLines(t *testing.T, words, breaks []int) {
	t.Helper()
	if l, ok := impl.LinesOfBreaks(words, breaks); len(l) != 0 || ok {
		t.Errorf("lines of %.100v broken before %.100v: %.100v %v", words, breaks, l, ok)
	}
}

func refuseLineCount(t *testing.T, words []int, r impl.Rule, measure, lines int) {
	t.Helper()
	if l, n, ok := impl.BestWithLines(words, r, measure, lines); len(l) != 0 || n != 0 || ok {
		t.Errorf("best %d lines of %.100v with %v for %d: %v %d %v", lines, words, r, measure, l, n, ok)
	}
}

func refuseToBreak(t *testing.T, f []impl.Sort, words []string, r impl.Rule, measure int) {
	t.Helper()
	if l, ok := impl.BreakWords(f, words, r, measure); len(l) != 0 || ok {
		t.Errorf("%.100q set in %.100v with %v for %d: %v %v", words, f, r, measure, l, ok)
	}
}

// refuseParagraph checks that no function takes the words, or the rule, or the measure.
func refuseParagraph(t *testing.T, words []int, r impl.Rule, measure int) {
	t.Helper()
	for _, breaks := range [][]int{nil, {1}, {2}, {20}, {23}, manyBreaks(min(len(words), 30), 1)} {
		refuseBreaks(t, words, r, measure, breaks)
	}
	for _, lines := range []int{1, 2, 4, 24, 0, 25} {
		refuseLineCount(t, words, r, measure, lines)
	}
	if l, n, ok := impl.BestBreaks(words, r, measure); len(l) != 0 || n != 0 || ok {
		t.Errorf("best breaks of %.100v with %v for %d: %v %d %v", words, r, measure, l, n, ok)
	}
	if l, ok := impl.GreedyBreaks(words, r, measure); len(l) != 0 || ok {
		t.Errorf("greedy breaks of %.100v with %v for %d: %v %v", words, r, measure, l, ok)
	}
	if n, ok := impl.CountBreaks(words, r, measure); n != 0 || ok {
		t.Errorf("possible breaks of %.100v with %v for %d: %d %v", words, r, measure, n, ok)
	}
	if n, ok := impl.FewestLines(words, r, measure); n != 0 || ok {
		t.Errorf("fewest lines of %.100v with %v for %d: %d %v", words, r, measure, n, ok)
	}
	if n, ok := impl.StuckAt(words, r, measure); n != 0 || ok {
		t.Errorf("%.100v with %v for %d is stuck at %d %v", words, r, measure, n, ok)
	}
}

func TestInvalidParagraphs(t *testing.T) {
	for _, words := range invalidParagraphs() {
		for _, r := range []impl.Rule{exampleRule(), readRule("1/1/1"), readRule("1/1/54"), readRule("8/5/3"), {}} {
			// Measures that single words or some of them would fill, and those for which one line would do.
			for _, measure := range []int{1, 30, 39, 50, 600, 601, 602, 1000, 2000, 0, -1, 2001} {
				refuseParagraph(t, words, r, measure)
			}
		}
		for _, breaks := range [][]int{nil, {1}, {2}, {1, 2, 3}, {20}, {23}, {24}, {0}, {2, 1}} {
			refuseLines(t, words, breaks)
		}
	}
}

func TestParagraphsWithInvalidRules(t *testing.T) {
	for _, r := range invalidRules() {
		for _, words := range validParagraphs() {
			for _, measure := range []int{1, 30, 50, 86, 600, 2000} {
				refuseParagraph(t, words, r, measure)
			}
		}
		for measure := range 80 {
			refuseParagraph(t, exampleParagraph(), r, measure)
			refuseToBreak(t, exampleFont(), manyWords(3), r, measure)
			refuseToBreak(t, exampleFont(), manyWords(1), r, measure)
		}
	}
}

func TestParagraphsWithInvalidMeasures(t *testing.T) {
	for _, measure := range invalidMeasures {
		for _, r := range validRules() {
			for _, words := range validParagraphs() {
				refuseParagraph(t, words, r, measure)
			}
			refuseToBreak(t, exampleFont(), manyWords(3), r, measure)
			refuseToBreak(t, exampleFont(), manyWords(1), r, measure)
		}
	}
}

func TestInvalidBreaks(t *testing.T) {
	for _, words := range validParagraphs() {
		for _, breaks := range invalidBreaks(len(words)) {
			for _, r := range []impl.Rule{exampleRule(), readRule("1/1/1"), readRule("1/1/54")} {
				for _, measure := range []int{1, 30, 50, 86, 600, 2000} {
					refuseBreaks(t, words, r, measure, breaks)
				}
			}
			if len(words) > 3 {
				refuseLines(t, words, breaks)
			}
		}
	}
	// All lists of at most three numbers, for words each of which is a line.
	for n := 1; n <= 5; n++ {
		words := counts(n, 30)
		for code := range 9 * 9 * 9 * 4 {
			breaks := []int{code%9 - 2, code/9%9 - 2, code/81%9 - 2}[:min(code/729, 3)]
			valid := slices.IsSorted(breaks) && len(slices.Compact(slices.Clone(breaks))) == len(breaks)
			for _, at := range breaks {
				valid = valid && at >= 1 && at < n
			}
			if l, ok := impl.LinesOfBreaks(words, breaks); ok != valid || valid != (len(l) == len(breaks)+1) {
				t.Fatalf("lines of %d words broken before %v: %v %v", n, breaks, l, ok)
			}
			cost, ok := impl.CostOfBreaks(words, exampleRule(), 30, breaks)
			if cost != 0 || ok != (valid && len(breaks) == n-1) {
				t.Fatalf("cost of %d words broken before %v: %d %v", n, breaks, cost, ok)
			}
		}
	}
}

func TestInvalidLineCounts(t *testing.T) {
	for _, lines := range invalidLineCounts {
		for _, words := range validParagraphs() {
			for _, measure := range []int{1, 30, 50, 86, 600, 2000} {
				refuseLineCount(t, words, exampleRule(), measure, lines)
			}
		}
	}
	for n := 1; n <= 24; n++ {
		for lines := -30; lines <= 60; lines++ {
			l, cost, ok := impl.BestWithLines(counts(n, 30), exampleRule(), 30, lines)
			if ok != (lines == n) || cost != 0 || ok != (len(l) == n-1) && n > 1 {
				t.Fatalf("%d words in %d lines: %v %d %v", n, lines, l, cost, ok)
			}
		}
	}
}

// takesParagraph tells which functions take a paragraph whose best breaks are before each word.
func takesParagraph(words []int, r impl.Rule, measure int) (done [7]bool) {
	breaks := manyBreaks(min(len(words), 30), 1)
	_, done[0] = impl.CostOfBreaks(words, r, measure, breaks)
	_, _, done[1] = impl.BestBreaks(words, r, measure)
	_, done[2] = impl.GreedyBreaks(words, r, measure)
	_, done[3] = impl.CountBreaks(words, r, measure)
	_, _, done[4] = impl.BestWithLines(words, r, measure, len(words))
	_, done[5] = impl.FewestLines(words, r, measure)
	_, done[6] = impl.LinesOfBreaks(words, breaks)
	return done
}

// checkTakes checks that all functions take a paragraph, or none; StuckAt never does, as it has possible breaks.
func checkTakes(t *testing.T, words []int, r impl.Rule, measure int, valid bool) {
	t.Helper()
	want := [7]bool{}
	for i := range want {
		want[i] = valid
	}
	if done := takesParagraph(words, r, measure); done != want {
		t.Errorf("%v with %v for %d: %v, want %v", words, r, measure, done, valid)
	}
	if n, ok := impl.StuckAt(words, r, measure); n != 0 || ok {
		t.Errorf("%v with %v for %d is stuck at %d %v", words, r, measure, n, ok)
	}
}

// TestParagraphLimits goes over all numbers around the limits.
func TestParagraphLimits(t *testing.T) {
	r := exampleRule()
	for n := range 60 {
		checkTakes(t, counts(n, 30), r, 30, n >= 1 && n <= 24)
	}
	for width := -5; width <= 610; width++ {
		valid := width >= 1 && width <= 600
		for _, n := range []int{1, 3, 20, 21, 24} {
			checkTakes(t, counts(n, width), r, max(width, 1), valid)
			if l, ok := impl.LinesOfBreaks(withCount(counts(n, 5), n-1, width), nil); ok != valid || valid != (len(l) == 1) {
				t.Error(n, "words, the last one of the width", width, ok)
			}
		}
	}
	// Four words, or one, that fill the measure with spaces of one unit.
	for measure := -5; measure <= 2010; measure++ {
		valid := measure >= 1 && measure <= 2000
		words := []int{max(1, measure)}
		if measure > 7 {
			words = []int{(measure - 3) / 4, (measure - 2) / 4, (measure - 1) / 4, measure / 4}
		}
		one := readRule("1/1/1")
		l, cost, ok := impl.BestBreaks(words, one, measure)
		if ok != valid || len(l) != 0 || cost != 0 {
			t.Error("measure", measure, l, cost, ok)
		}
		count, ok := impl.CountBreaks(words, one, measure)
		if ok != valid || valid != (count == 1) {
			t.Error("measure", measure, "possible breaks", count, ok)
		}
		if l, ok := impl.GreedyBreaks(words, one, measure); ok != valid || len(l) != 0 {
			t.Error("measure", measure, "greedy", l, ok)
		}
		if n, ok := impl.FewestLines(words, one, measure); ok != valid || valid != (n == 1) {
			t.Error("measure", measure, "fewest lines", n, ok)
		}
		// Two words more are too wide for most of them.
		if n, ok := impl.StuckAt(append(words, min(measure+1, 600), 600), one, measure); measure >= 1 && measure < 600 && (n != len(words) || !ok) || !valid && (n != 0 || ok) {
			t.Error("measure", measure, "stuck at", n, ok)
		}
	}
}

func TestInvalidWordsToSetInParagraphs(t *testing.T) {
	for _, f := range invalidFonts() {
		for _, words := range [][]string{nil, {"fin"}, {"fin", "fin", "fin"}, manyWords(24), manyWords(25)} {
			for _, measure := range []int{1, 20, 45, 600, 2000, 0, 2001} {
				refuseToBreak(t, f, words, exampleRule(), measure)
			}
		}
	}
	lists := append(invalidCopies(), nil, []string{}, manyWords(25), manyWords(26), manyWords(40), append(manyWords(24), "a"), append(manyWords(23), "a"))
	for _, words := range lists {
		// With the greatest widths of spaces nearly all measures would do.
		for measure := -1; measure <= 2002; measure += 7 {
			refuseToBreak(t, exampleFont(), words, readRule("1/1/54"), measure)
		}
	}
}

// paragraphResults are the results of all functions on paragraphs, each with its success.
type paragraphResults struct {
	numbers [6]int
	done    [9]bool
	breaks  [4][]int
	lines   [][]int
}

func paragraphResultsOf(words, breaks []int, f []impl.Sort, texts []string, r impl.Rule, measure, lines int) (x paragraphResults) {
	x.numbers[0], x.done[0] = impl.CostOfBreaks(words, r, measure, breaks)
	x.breaks[0], x.numbers[1], x.done[1] = impl.BestBreaks(words, r, measure)
	x.breaks[1], x.done[2] = impl.GreedyBreaks(words, r, measure)
	x.numbers[2], x.done[3] = impl.CountBreaks(words, r, measure)
	x.breaks[2], x.numbers[3], x.done[4] = impl.BestWithLines(words, r, measure, lines)
	x.numbers[4], x.done[5] = impl.FewestLines(words, r, measure)
	x.lines, x.done[6] = impl.LinesOfBreaks(words, breaks)
	x.numbers[5], x.done[7] = impl.StuckAt(words, r, measure)
	x.breaks[3], x.done[8] = impl.BreakWords(f, texts, r, measure)
	return x
}

// lists returns all lists of numbers among the results.
func (x paragraphResults) lists() [][]int { return slices.Concat(x.breaks[:], x.lines) }

// sameParagraphResults compares results; their lists are overwritten.
func sameParagraphResults(a, b paragraphResults) bool {
	same := equalLists(a.breaks[:], b.breaks[:]) && equalLists(a.lines, b.lines)
	for _, l := range slices.Concat(a.lists(), b.lists()) {
		overwrite(l, true)
	}
	return same && a.numbers == b.numbers && a.done == b.done
}

// checkParagraphsStay calls the functions with lists that have spare capacity, of which they must neither take nor change anything, and overwrites the results.
func checkParagraphsStay(t *testing.T, given, givenBreaks []int, font []impl.Sort, copies []string, spare int, r impl.Rule, measure, lines int) {
	t.Helper()
	words, wordsStay := guarded(t, "paragraph", given, spare)
	breaks, breaksStay := guarded(t, "breaks", givenBreaks, len(given)-1)
	f, fontStays := guarded(t, "font", font, impl.Sort{Code: "zz", Set: 5})
	texts, textsStay := guarded(t, "words", copies, "n")
	plain := paragraphResultsOf(slices.Clip(slices.Clone(given)), slices.Clip(slices.Clone(givenBreaks)), slices.Clip(slices.Clone(font)), slices.Clip(slices.Clone(copies)), r, measure, lines)
	x := paragraphResultsOf(words, breaks, f, texts, r, measure, lines)
	if shareAny(append(x.lists(), words, breaks)) {
		t.Errorf("%.100v with %v for %d: results share memory", given, r, measure)
	}
	if !sameParagraphResults(x, plain) {
		t.Errorf("%.100v with %v for %d: %v, without spare capacity %v", given, r, measure, x, plain)
	}
	wordsStay()
	breaksStay()
	fontStays()
	textsStay()
}

func TestParagraphsStay(t *testing.T) {
	fonts := [][]impl.Sort{lineFont(), exampleFont(), nil, font("b5", "a5"), font("n0")}
	texts := [][]string{copyOf("fin n fin"), copyOf("fin"), nil, copyOf("fan n"), manyWords(25)}
	for k, given := range slices.Concat(validParagraphs(), invalidParagraphs()[2:60]) {
		if len(given) > 100 {
			given = given[:100]
		}
		for m, breaks := range [][]int{nil, {2}, manyBreaks(len(given), 1), manyBreaks(len(given), 3), {0}, {2, 1}, {len(given)}} {
			spare := []int{5, 600, 30, 0, 601}[(k+m)%5]
			measure := []int{30, 50, 1, 600, 1908, 0, 31}[(k*3+m)%7]
			for i, r := range []impl.Rule{exampleRule(), readRule("1/27/54"), readRule("8/5/3")} {
				checkParagraphsStay(t, given, breaks, fonts[(m+i)%5], texts[(m+i*2)%5], spare, r, measure, 1+(m+i)%4)
				checkParagraphsStay(t, given, breaks, fonts[0], texts[0], spare, r, measure, len(given))
			}
		}
	}
	for _, c := range paragraphCases {
		breaks, _ := readBreaks(c.best)
		checkParagraphsStay(t, c.words, breaks, fonts[0], texts[0], 5, readRule(c.rule), c.measure, len(breaks)+1)
	}
}

// TestParagraphResultsAreNew checks that the same call gives the same result when an earlier one has been overwritten.
func TestParagraphResultsAreNew(t *testing.T) {
	words := counts(8, 10)
	r := readRule("1/10/54")
	for range 2 {
		best, _, _ := impl.BestBreaks(words, r, 50)
		greedy, _ := impl.GreedyBreaks(words, r, 50)
		four, _, _ := impl.BestWithLines(words, r, 50, 4)
		three, _, _ := impl.BestWithLines(words, r, 50, 3)
		set, _ := impl.BreakWords(exampleFont(), manyWords(4), exampleRule(), 45)
		lines, _ := impl.LinesOfBreaks(words, best)
		lists := append([][]int{best, greedy, four, three, set}, lines...)
		if !equalLists(lists, readCountLists("3 6/4/2 4 7/3 6/2/10 10 10/10 10 10/10 10")) {
			t.Error(lists)
		}
		if shareAny(append(lists, words)) {
			t.Error("results share memory")
		}
		for _, l := range lists {
			overwrite(l, true)
		}
		if !slices.Equal(words, counts(8, 10)) {
			t.Fatal("an argument was changed:", words)
		}
	}
}
