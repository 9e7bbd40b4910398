package tests

import (
	"math"
	"math/rand"
	"slices"
	"strconv"
	"strings"
	"testing"

	"loop.example/g01054/impl"
)

// readWidths reads kinds or counts, separated by blanks.
func readWidths(text string) []int {
	if text == "" {
		return nil
	}
	return readNumbers(text, " ")
}

func exampleSpaces() []int { return []int{4, 6, 9} }

func validSpaces() [][]int {
	var lists [][]int
	for _, text := range []string{"4 6 9", "1", "2", "27", "53", "54", "1 54", "53 54", "1 2 3 4 5 6", "49 50 51 52 53 54", "5 10 15 20 25 30", "3 7 11 19 54", "1 7 54", "2 4 6 8"} {
		lists = append(lists, readWidths(text))
	}
	return lists
}

func invalidSpaces() [][]int {
	lists := [][]int{nil, {}, upTo(1000), upTo(7), slices.Repeat([]int{0}, 6), slices.Repeat([]int{5}, 7)}
	for _, text := range []string{
		"0", "55", "-1", "-54", "0 4 6", "-4 6 9", "4 6 55", "4 55 56", "-9 -6 -4", "0 54", "1 55", // outside
		"4 4", "4 4 6", "4 6 6", "54 54", "1 2 3 4 5 5", "1 1 2 3 4 5", // equal
		"6 4", "9 6 4", "4 9 6", "6 4 9", "54 1", "1 2 3 4 6 5", "2 1 3 4 5 6", // decreasing
		"1 2 3 4 5 6 7", "48 49 50 51 52 53 54", "1 2 3 4 5 6 54", "1 2 3 4 5 6 6", // one more than 6
	} {
		lists = append(lists, readWidths(text))
	}
	for _, n := range []int{math.MinInt, math.MaxInt, math.MinInt + 1, 100} {
		lists = append(lists, []int{n}, []int{n, 6, 9}, []int{4, n, 9}, []int{4, 6, n}, []int{n, n})
	}
	return lists
}

var (
	validWidths   = []int{0, 1, 2, 12, 54, 55, 399, 400}
	invalidWidths = []int{-1, -2, -400, math.MinInt, 401, 402, 1000, 4000, math.MaxInt}
)

// invalidSpaceCounts returns what are neither counts nor a stock of n kinds.
func invalidSpaceCounts(n int) [][]int {
	lists := [][]int{counts(n+1, 0), counts(n+1, 5), counts(n-1, 0), counts(n-1, 5), counts(1000, 0), append(counts(n, 400), 400)}
	for _, count := range []int{-1, -2, -400, 401, 402, 1000, math.MinInt, math.MaxInt} {
		lists = append(lists, withCount(counts(n, 0), 0, count), withCount(counts(n, 5), n-1, count), withCount(counts(n, 400), n/2, count), counts(n, count))
	}
	if n != 1 {
		lists = append(lists, nil, []int{}, []int{0}, []int{400})
	}
	return append(lists, nil, []int{})
}

func TestSpaceConstants(t *testing.T) {
	if impl.MaxSpaces != 6 || impl.MaxFill != 400 {
		t.Error(impl.MaxSpaces, impl.MaxFill)
	}
}

func TestAreSpaces(t *testing.T) {
	for _, kinds := range validSpaces() {
		if !impl.AreSpaces(kinds) {
			t.Errorf("%v are spaces", kinds)
		}
	}
	for _, kinds := range invalidSpaces() {
		if impl.AreSpaces(kinds) {
			t.Errorf("%.100v are no spaces", kinds)
		}
	}
	for width := -3; width < 60; width++ {
		if impl.AreSpaces([]int{width}) != (width >= 1 && width <= 54) {
			t.Error("width", width)
		}
		if impl.AreSpaces([]int{20, width}) != (width > 20 && width <= 54) || impl.AreSpaces([]int{width, 20}) != (width >= 1 && width < 20) {
			t.Error("width with 20", width)
		}
	}
	for n := range 10 {
		var kinds []int
		for i := range n {
			kinds = append(kinds, i+1)
		}
		if impl.AreSpaces(kinds) != (n >= 1 && n <= 6) {
			t.Error("kinds", n)
		}
	}
}

// fillCases tell how a width is filled: with the fewest spaces, or not at all, in how many ways, which one is nearest, and how many of the thinnest are needed.
var fillCases = []struct {
	kinds    string
	n        int
	fewest   string
	ways     int
	nearest  int
	thinnest int
}{
	{"4 6 9", 0, "0 0 0", 1, 0, 0},
	{"4 6 9", 1, "", 0, 0, 0},
	{"4 6 9", 3, "", 0, 0, 0},
	{"4 6 9", 4, "1 0 0", 1, 4, 1},
	{"4 6 9", 5, "", 0, 4, 0}, // the nearest one is one less
	{"4 6 9", 6, "0 1 0", 1, 6, 0},
	{"4 6 9", 7, "", 0, 6, 0},
	{"4 6 9", 8, "2 0 0", 1, 8, 2},
	{"4 6 9", 9, "0 0 1", 1, 9, 0},
	{"4 6 9", 10, "1 1 0", 1, 10, 1},
	{"4 6 9", 11, "", 0, 10, 0},
	{"4 6 9", 12, "0 2 0", 2, 12, 0},
	{"4 6 9", 13, "1 0 1", 1, 13, 1},
	{"4 6 9", 14, "2 1 0", 1, 14, 2},
	{"4 6 9", 18, "0 0 2", 3, 18, 0}, // 9 9, 6 6 6 and 6 4 4 4
	{"4 6 9", 400, "1 0 44", 397, 400, 1},
	// One kind alone.
	{"1", 0, "0", 1, 0, 0},
	{"1", 1, "1", 1, 1, 1},
	{"1", 399, "399", 1, 399, 399},
	{"1", 400, "400", 1, 400, 400},
	{"54", 0, "0", 1, 0, 0},
	{"54", 53, "", 0, 0, 0},
	{"54", 54, "1", 1, 54, 1},
	{"54", 55, "", 0, 54, 0},
	{"54", 107, "", 0, 54, 0},
	{"54", 378, "7", 1, 378, 7},
	{"54", 400, "", 0, 378, 0},
	{"2", 400, "200", 1, 400, 200},
	{"2", 399, "", 0, 398, 0},
	{"50", 400, "8", 1, 400, 8},
	// Filled by one of several kinds.
	{"4 6 9", 36, "0 0 4", 7, 36, 0},
	{"1 54", 54, "0 1", 2, 54, 0},
	{"1 54", 53, "53 0", 1, 53, 53},
	{"1 54", 55, "1 1", 2, 55, 1},
	{"1 54", 400, "22 7", 8, 400, 22},
	{"1 54", 378, "0 7", 8, 378, 0},
	{"53 54", 400, "", 0, 378, 0},
	{"53 54", 378, "0 7", 1, 378, 0},
	{"53 54", 377, "1 6", 1, 377, 1},
	{"53 54", 371, "7 0", 1, 371, 7},
	{"53 54", 370, "", 0, 324, 0},
	// The widest first would take more, or lead nowhere.
	{"1 3 4", 6, "0 2 0", 4, 6, 0},
	{"1 5 7", 10, "0 2 0", 4, 10, 0},
	{"1 10 25", 30, "0 3 0", 5, 30, 0},
	{"5 7", 10, "2 0", 1, 10, 2},
	{"5 7", 15, "3 0", 1, 15, 3},
	{"6 9 20", 43, "", 0, 42, 0},
	{"6 9 20", 44, "1 2 1", 2, 44, 1},
	{"6 9 20", 49, "0 1 2", 1, 49, 0},
	// Several have the fewest spaces.
	{"1 2 3", 4, "1 0 1", 4, 4, 0},              // 3 1 and 2 2
	{"1 2 3 4", 6, "0 1 0 1", 9, 6, 0},          // 4 2 and 3 3
	{"1 2 3 4 5 6", 8, "0 1 0 0 0 1", 20, 8, 0}, // 6 2, 5 3 and 4 4
	{"3 4 5", 8, "1 0 1", 2, 8, 0},
	{"3 4 5", 12, "1 1 1", 3, 12, 0},     // 5 4 3 and 4 4 4
	{"2 5 6 9", 11, "1 0 0 1", 3, 11, 0}, // 9 2 and 6 5
	{"2 3 5 6", 8, "1 0 0 1", 4, 8, 0},   // 6 2 and 5 3
	{"1 4 6 9", 10, "1 0 0 1", 6, 10, 0}, // 9 1 and 6 4
	{"10 20 30", 40, "1 0 1", 4, 40, 0},
	{"49 50 51 52 53 54", 103, "1 0 0 0 0 1", 3, 103, 0},
	{"49 50 51 52 53 54", 104, "0 1 0 0 0 1", 3, 104, 0},
	{"49 50 51 52 53 54", 98, "2 0 0 0 0 0", 1, 98, 2},
	{"49 50 51 52 53 54", 99, "1 1 0 0 0 0", 1, 99, 1},
	{"49 50 51 52 53 54", 109, "", 0, 108, 0},
	{"49 50 51 52 53 54", 146, "", 0, 108, 0},
	{"49 50 51 52 53 54", 147, "3 0 0 0 0 0", 1, 147, 3},
	{"49 50 51 52 53 54", 48, "", 0, 0, 0},
	// The thinnest kind is needed, though others could stand instead of some of it.
	{"2 3", 7, "2 1", 1, 7, 2},
	{"2 3", 8, "1 2", 2, 8, 1},
	{"2 3", 9, "0 3", 2, 9, 0},
	{"2 3", 400, "2 132", 67, 400, 2},
	{"2 4 6 8", 400, "0 0 0 50", 59823, 400, 0},
	{"2 4 6 8", 399, "", 0, 398, 0},
	{"3 7 11 19 54", 400, "1 0 0 1 7", 6958, 400, 0},
	{"1 2 3 4 5 6", 400, "0 0 0 1 0 66", 134851969, 400, 0},
	{"1 2", 400, "0 200", 201, 400, 0},
}

// The most ways to fill a width.
const mostWays = 134851969

func TestFillings(t *testing.T) {
	for _, c := range fillCases {
		kinds, fewest := readWidths(c.kinds), readWidths(c.fewest)
		can := c.fewest != ""
		if is, ok := impl.CanFill(kinds, c.n); is != can || !ok {
			t.Errorf("%s can fill %d: %v %v", c.kinds, c.n, is, ok)
		}
		if l, ok := impl.FewestSpaces(kinds, c.n); !slices.Equal(l, fewest) || ok != can {
			t.Errorf("fewest of %s for %d: %v %v, want %v", c.kinds, c.n, l, ok, fewest)
		}
		if n, ok := impl.WaysToFill(kinds, c.n); n != c.ways || !ok {
			t.Errorf("ways of %s for %d: %d %v, want %d", c.kinds, c.n, n, ok, c.ways)
		}
		if n, ok := impl.NearestFill(kinds, c.n); n != c.nearest || !ok {
			t.Errorf("nearest of %s to %d: %d %v, want %d", c.kinds, c.n, n, ok, c.nearest)
		}
		if n, ok := impl.ThinnestNeeded(kinds, c.n); n != c.thinnest || ok != can {
			t.Errorf("thinnest of %s for %d: %d %v, want %d", c.kinds, c.n, n, ok, c.thinnest)
		}
	}
}

// TestMostWays counts the ways for 400 by the counts of the four widest kinds: what is left is filled by as many twos as there is room for, and ones.
func TestMostWays(t *testing.T) {
	ways := 0
	for six := 0; six <= 400; six += 6 {
		for five := six; five <= 400; five += 5 {
			for four := five; four <= 400; four += 4 {
				for three := four; three <= 400; three += 3 {
					ways += (400-three)/2 + 1
				}
			}
		}
	}
	if n, ok := impl.WaysToFill([]int{1, 2, 3, 4, 5, 6}, 400); n != ways || n != mostWays || !ok {
		t.Error(n, ok, ways)
	}
}

func TestMissingSums(t *testing.T) {
	cases := []struct {
		kinds   string
		most    int
		missing string
	}{
		{"4 6 9", 0, ""},
		{"4 6 9", 1, "1"},
		{"4 6 9", 3, "1 2 3"},
		{"4 6 9", 4, "1 2 3"},
		{"4 6 9", 5, "1 2 3 5"},
		{"4 6 9", 10, "1 2 3 5 7"},
		{"4 6 9", 11, "1 2 3 5 7 11"},
		{"4 6 9", 12, "1 2 3 5 7 11"},
		{"4 6 9", 400, "1 2 3 5 7 11"},
		{"1", 0, ""},
		{"1", 1, ""},
		{"1", 400, ""},
		{"1 54", 400, ""},
		{"1 2 3 4 5 6", 400, ""},
		{"2", 1, "1"},
		{"2", 2, "1"},
		{"2", 9, "1 3 5 7 9"},
		{"2 4 6 8", 9, "1 3 5 7 9"},
		{"2 3", 400, "1"},
		{"3 5", 400, "1 2 4 7"},
		{"5 7", 400, "1 2 3 4 6 8 9 11 13 16 18 23"},
		{"6 9 20", 400, "1 2 3 4 5 7 8 10 11 13 14 16 17 19 22 23 25 28 31 34 37 43"},
		{"50", 5, "1 2 3 4 5"},
		{"5 10 15 20 25 30", 11, "1 2 3 4 6 7 8 9 11"},
	}
	for _, c := range cases {
		if l, ok := impl.MissingSums(readWidths(c.kinds), c.most); !slices.Equal(l, readWidths(c.missing)) || !ok {
			t.Errorf("missing of %s up to %d: %v %v, want %s", c.kinds, c.most, l, ok, c.missing)
		}
	}
	// All are missing before the one kind, and all that are no multiples of it behind it.
	for width := 1; width <= 54; width++ {
		var missing []int
		for most := range 401 {
			if most%width != 0 {
				missing = append(missing, most)
			}
			if l, ok := impl.MissingSums([]int{width}, most); !slices.Equal(l, missing) || !ok {
				t.Fatalf("missing of %d up to %d: %v %v", width, most, l, ok)
			}
		}
	}
}

func TestFillFromStock(t *testing.T) {
	cases := []struct {
		kinds, stock string
		n            int
		want         string
	}{
		{"4 6 9", "3 0 1", 12, "3 0 0"},
		{"4 6 9", "3 2 1", 12, "0 2 0"},
		{"4 6 9", "3 1 1", 12, "3 0 0"},
		{"4 6 9", "2 1 1", 12, ""},
		{"4 6 9", "0 0 0", 0, "0 0 0"},
		{"4 6 9", "400 400 400", 0, "0 0 0"},
		{"4 6 9", "0 0 0", 4, ""},
		{"4 6 9", "0 0 0", 400, ""},
		{"4 6 9", "400 400 400", 11, ""},
		{"4 6 9", "400 400 400", 400, "1 0 44"},
		{"4 6 9", "1 0 44", 400, "1 0 44"},
		{"4 6 9", "0 400 44", 400, ""},
		// Just enough, and one too few.
		{"4 6 9", "2 1 0", 14, "2 1 0"},
		{"4 6 9", "1 1 0", 14, ""},
		{"4 6 9", "2 0 0", 14, ""},
		{"4 6 9", "2 0 400", 14, ""},
		{"4 6 9", "0 0 44", 396, "0 0 44"},
		{"4 6 9", "0 0 43", 396, ""},
		{"4 6 9", "0 1 43", 396, ""},
		{"4 6 9", "0 3 42", 396, "0 3 42"},
		{"4 6 9", "0 3 400", 396, "0 0 44"},
		// Less of the widest, if it cannot be used up.
		{"4 6 9", "400 400 0", 36, "0 6 0"},
		{"4 6 9", "400 0 0", 36, "9 0 0"},
		{"4 6 9", "8 0 0", 36, ""},
		{"4 6 9", "9 5 0", 36, "3 4 0"},
		{"4 6 9", "2 5 0", 36, ""},
		{"4 6 9", "400 400 1", 36, "0 6 0"},
		{"4 6 9", "400 400 3", 36, "0 3 2"},
		{"4 6 9", "400 0 3", 36, "9 0 0"},
		{"4 6 9", "8 0 3", 36, ""},
		{"4 6 9", "8 2 3", 36, "3 1 2"},
		{"4 6 9", "8 1 2", 36, "3 1 2"},
		{"4 6 9", "2 1 2", 36, ""},
		// The best counts are not always the fewest.
		{"1 3 4", "400 400 400", 6, "2 0 1"},
		{"1 3 4", "2 2 1", 6, "2 0 1"},
		{"1 3 4", "1 2 1", 6, "0 2 0"},
		{"1 3 4", "3 1 0", 6, "3 1 0"},
		{"1 3 4", "3 0 1", 6, "2 0 1"},
		{"1 3 4", "2 1 0", 6, ""},
		{"1 10 25", "400 400 400", 30, "5 0 1"},
		{"1 10 25", "4 400 400", 30, "0 3 0"},
		{"1 10 25", "4 2 400", 30, ""},
		// One kind alone.
		{"1", "400", 400, "400"},
		{"1", "399", 400, ""},
		{"1", "399", 399, "399"},
		{"1", "400", 0, "0"},
		{"1", "0", 0, "0"},
		{"1", "0", 1, ""},
		{"1", "1", 1, "1"},
		{"54", "7", 378, "7"},
		{"54", "400", 378, "7"},
		{"54", "6", 378, ""},
		{"54", "400", 400, ""},
		{"54", "0", 54, ""},
		{"54", "1", 54, "1"},
		{"54", "1", 53, ""},
		// All kinds.
		{"1 2 3 4 5 6", "1 1 1 1 1 1", 21, "1 1 1 1 1 1"},
		{"1 2 3 4 5 6", "1 1 1 1 1 1", 20, "0 1 1 1 1 1"},
		{"1 2 3 4 5 6", "1 1 1 1 1 1", 22, ""},
		{"1 2 3 4 5 6", "1 1 1 1 1 1", 10, "0 0 0 1 0 1"},
		{"1 2 3 4 5 6", "1 1 1 0 1 1", 10, "1 0 1 0 0 1"},
		{"1 2 3 4 5 6", "400 400 400 400 400 400", 400, "0 0 0 1 0 66"},
		{"1 2 3 4 5 6", "400 400 400 400 400 65", 400, "0 0 0 0 2 65"},
		{"1 2 3 4 5 6", "400 0 0 0 0 0", 400, "400 0 0 0 0 0"},
		{"1 2 3 4 5 6", "399 1 0 0 0 0", 400, "398 1 0 0 0 0"},
		{"49 50 51 52 53 54", "1 1 1 1 1 1", 309, "1 1 1 1 1 1"},
		{"49 50 51 52 53 54", "1 1 1 1 1 1", 400, ""},
		{"49 50 51 52 53 54", "2 2 2 2 2 2", 103, "1 0 0 0 0 1"},
		{"49 50 51 52 53 54", "0 2 2 2 2 2", 103, "0 1 0 0 1 0"},
		{"1 7 54", "0 400 400", 400, "0 34 3"},
		{"1 7 54", "0 33 400", 400, ""},
		{"1 7 54", "400 400 400", 400, "1 3 7"},
		{"1 7 54", "2 400 5", 400, "2 26 4"},
	}
	for _, c := range cases {
		l, ok := impl.FillFromStock(readWidths(c.kinds), readWidths(c.stock), c.n)
		if !slices.Equal(l, readWidths(c.want)) || ok != (c.want != "") {
			t.Errorf("%d with %s of %s: %v %v, want %s", c.n, c.stock, c.kinds, l, ok, c.want)
		}
	}
}

func TestSpacesText(t *testing.T) {
	cases := []struct{ kinds, counts, want string }{
		{"4 6 9", "2 1 0", "1x6+2x4"},
		{"4 6 9", "0 0 0", "0"},
		{"4 6 9", "1 0 0", "1x4"},
		{"4 6 9", "0 1 0", "1x6"},
		{"4 6 9", "0 0 1", "1x9"},
		{"4 6 9", "3 0 1", "1x9+3x4"},
		{"4 6 9", "0 12 10", "10x9+12x6"},
		{"4 6 9", "1 2 3", "3x9+2x6+1x4"},
		{"4 6 9", "400 400 400", "400x9+400x6+400x4"}, // wider than any width that is filled
		{"4 6 9", "0 400 0", "400x6"},
		{"4 6 9", "399 0 400", "400x9+399x4"},
		{"1", "0", "0"},
		{"1", "1", "1x1"},
		{"1", "400", "400x1"},
		{"54", "0", "0"},
		{"54", "7", "7x54"},
		{"54", "400", "400x54"},
		{"1 54", "22 7", "7x54+22x1"},
		{"1 2 3 4 5 6", "0 0 0 0 0 0", "0"},
		{"1 2 3 4 5 6", "1 2 3 4 5 6", "6x6+5x5+4x4+3x3+2x2+1x1"},
		{"1 2 3 4 5 6", "0 0 7 0 0 0", "7x3"},
		{"49 50 51 52 53 54", "400 0 0 0 0 400", "400x54+400x49"},
	}
	for _, c := range cases {
		if s, ok := impl.SpacesText(readWidths(c.kinds), readWidths(c.counts)); s != c.want || !ok {
			t.Errorf("%s of %s: %q %v, want %q", c.counts, c.kinds, s, ok, c.want)
		}
	}
}

// fillingsOf returns all counts that fill a width, in no order that matters.
func fillingsOf(kinds []int, n int) [][]int {
	if len(kinds) == 0 {
		if n == 0 {
			return [][]int{nil}
		}
		return nil
	}
	var all [][]int
	for count := 0; count*kinds[0] <= n; count++ {
		for _, rest := range fillingsOf(kinds[1:], n-count*kinds[0]) {
			all = append(all, append([]int{count}, rest...))
		}
	}
	return all
}

// isBetterFilling compares counts from the widest kind on.
func isBetterFilling(a, b []int) bool {
	a, b = slices.Clone(a), slices.Clone(b)
	slices.Reverse(a)
	slices.Reverse(b)
	return slices.Compare(a, b) > 0
}

func sumOfCounts(l []int) int {
	sum := 0
	for _, count := range l {
		sum += count
	}
	return sum
}

func widthOfCounts(kinds, l []int) int {
	width := 0
	for i, count := range l {
		width += count * kinds[i]
	}
	return width
}

// randomSpaces returns kinds that are narrow, near each other, or any, and a width for which not too many counts have to be tried.
func randomSpaces(r *rand.Rand) ([]int, int) {
	from, to, most := 1, 54, 120
	switch r.Intn(4) {
	case 0:
		to, most = 9, 40
	case 1:
		from = 10 + r.Intn(35)
		to, most = from+9, 400
	case 2:
		from, most = 9, 300
	}
	var kinds []int
	for range 1 + r.Intn(6) {
		kinds = append(kinds, from+r.Intn(to-from+1))
	}
	slices.Sort(kinds)
	return slices.Compact(kinds), r.Intn(most + 1)
}

// checkFewest checks that the fewest spaces fill the width, no fewer ones do, and none of as many are better. It returns how many are as few.
func checkFewest(t *testing.T, kinds []int, n int, all [][]int) int {
	t.Helper()
	fewest, ok := impl.FewestSpaces(kinds, n)
	if ok != (len(all) > 0) || !ok && len(fewest) > 0 {
		t.Fatalf("fewest of %v for %d: %v %v", kinds, n, fewest, ok)
	}
	if !ok {
		return 0
	}
	if widthOfCounts(kinds, fewest) != n || len(fewest) != len(kinds) || slices.Min(fewest) < 0 {
		t.Fatalf("%v of %v do not fill %d", fewest, kinds, n)
	}
	asFew := 0
	for _, x := range all {
		few := sumOfCounts(x) - sumOfCounts(fewest)
		if few < 0 || few == 0 && isBetterFilling(x, fewest) {
			t.Fatalf("fewest of %v for %d: %v, but %v", kinds, n, fewest, x)
		}
		if few == 0 {
			asFew++
		}
	}
	return asFew
}

// checkThinnest checks that a filling has as many of the thinnest kind as are needed, and none has fewer.
func checkThinnest(t *testing.T, kinds []int, n int, all [][]int) int {
	t.Helper()
	least := 0
	for i, x := range all {
		if i == 0 || x[0] < least {
			least = x[0]
		}
	}
	if count, ok := impl.ThinnestNeeded(kinds, n); count != least || ok != (len(all) > 0) {
		t.Fatalf("thinnest of %v for %d: %d %v, want %d", kinds, n, count, ok, least)
	}
	return least
}

func TestRandomFillings(t *testing.T) {
	r := rand.New(rand.NewSource(41))
	none, one, several, asFew, thin := 0, 0, 0, 0, 0
	for range 4000 {
		kinds, n := randomSpaces(r)
		all := fillingsOf(kinds, n)
		switch len(all) {
		case 0:
			none++
		case 1:
			one++
		default:
			several++
		}
		if is, ok := impl.CanFill(kinds, n); is != (len(all) > 0) || !ok {
			t.Fatalf("%v can fill %d: %v %v", kinds, n, is, ok)
		}
		if ways, ok := impl.WaysToFill(kinds, n); ways != len(all) || !ok {
			t.Fatalf("ways of %v for %d: %d %v, want %d", kinds, n, ways, ok, len(all))
		}
		if checkFewest(t, kinds, n, all) > 1 {
			asFew++
		}
		if checkThinnest(t, kinds, n, all) > 0 {
			thin++
		}
	}
	if min(none, one, several, asFew, thin) < 400 {
		t.Error("too few:", none, one, several, asFew, thin)
	}
}

// checkFillFromStock checks that the best of all counts for which a stock is enough are told. It returns whether there are some.
func checkFillFromStock(t *testing.T, kinds, stock []int, n int, all [][]int) bool {
	t.Helper()
	var best []int
	for _, x := range all {
		if isCovered(x, stock) && (best == nil || isBetterFilling(x, best)) {
			best = x
		}
	}
	if l, ok := impl.FillFromStock(kinds, stock, n); !slices.Equal(l, best) || ok != (best != nil) {
		t.Fatalf("%d with %v of %v: %v %v, want %v", n, stock, kinds, l, ok, best)
	}
	return best != nil
}

func TestRandomFillFromStock(t *testing.T) {
	r := rand.New(rand.NewSource(42))
	enough, tooFew := 0, 0
	for range 4000 {
		kinds, n := randomSpaces(r)
		all := fillingsOf(kinds, n)
		stocks := [][]int{counts(len(kinds), 0), counts(len(kinds), 400)}
		for _, most := range []int{1, 2, 5, 10, 50, 400} {
			stocks = append(stocks, randomCounts(r, len(kinds), most))
		}
		for _, stock := range stocks {
			if checkFillFromStock(t, kinds, stock, n, all) {
				enough++
			} else if len(all) > 0 {
				tooFew++
			}
		}
		if len(all) == 0 {
			continue
		}
		// A stock that is just enough is used up, and is too few with one less.
		just := all[r.Intn(len(all))]
		if l, ok := impl.FillFromStock(kinds, just, n); !slices.Equal(l, just) || !ok {
			t.Fatalf("%d with %v of %v: %v %v", n, just, kinds, l, ok)
		}
		if i := r.Intn(len(just)); just[i] > 0 {
			if l, ok := impl.FillFromStock(kinds, withCount(just, i, just[i]-1), n); len(l) != 0 || ok {
				t.Fatalf("%d with one too few of %v of %v: %v %v", n, just, kinds, l, ok)
			}
		}
	}
	if min(enough, tooFew) < 2000 {
		t.Error("too few:", enough, tooFew)
	}
}

// checkAllWidths checks all widths against those that are one space wider than one that can be filled.
func checkAllWidths(t *testing.T, kinds []int) {
	t.Helper()
	can := map[int]bool{0: true}
	fewest := map[int]int{}
	nearest := 0
	var missing []int
	for n := range 401 {
		for _, width := range kinds {
			if before := n - width; can[before] && (!can[n] || fewest[before]+1 < fewest[n]) {
				can[n], fewest[n] = true, fewest[before]+1
			}
		}
		if can[n] {
			nearest = n
		} else {
			missing = append(missing, n)
		}
		if is, ok := impl.CanFill(kinds, n); is != can[n] || !ok {
			t.Fatalf("%v can fill %d: %v %v", kinds, n, is, ok)
		}
		if x, ok := impl.NearestFill(kinds, n); x != nearest || !ok {
			t.Fatalf("nearest of %v to %d: %d %v, want %d", kinds, n, x, ok, nearest)
		}
		if l, ok := impl.MissingSums(kinds, n); !slices.Equal(l, missing) || !ok {
			t.Fatalf("missing of %v up to %d: %v %v, want %v", kinds, n, l, ok, missing)
		}
		l, ok := impl.FewestSpaces(kinds, n)
		if ok != can[n] || sumOfCounts(l) != fewest[n] || ok && (widthOfCounts(kinds, l) != n || len(l) != len(kinds)) {
			t.Fatalf("fewest of %v for %d: %v %v, want %d", kinds, n, l, ok, fewest[n])
		}
		ways, ok := impl.WaysToFill(kinds, n)
		if !ok || (ways > 0) != can[n] || ways > mostWays {
			t.Fatalf("ways of %v for %d: %d %v", kinds, n, ways, ok)
		}
		if x, ok := impl.ThinnestNeeded(kinds, n); ok != can[n] || x*kinds[0] > n {
			t.Fatalf("thinnest of %v for %d: %d %v", kinds, n, x, ok)
		}
		l, ok = impl.FillFromStock(kinds, counts(len(kinds), 400), n)
		if ok != can[n] || ok && widthOfCounts(kinds, l) != n {
			t.Fatalf("%d with a full stock of %v: %v %v", n, kinds, l, ok)
		}
	}
}

func TestAllWidths(t *testing.T) {
	for _, kinds := range validSpaces() {
		checkAllWidths(t, kinds)
	}
	r := rand.New(rand.NewSource(43))
	for range 60 {
		kinds, _ := randomSpaces(r)
		checkAllWidths(t, kinds)
	}
}

// TestRandomSpacesTexts reads texts back: each part is a count of a kind that is narrower than the one before.
func TestRandomSpacesTexts(t *testing.T) {
	r := rand.New(rand.NewSource(44))
	for range 5000 {
		kinds, _ := randomSpaces(r)
		l := randomCounts(r, len(kinds), []int{1, 3, 400}[r.Intn(3)])
		text, ok := impl.SpacesText(kinds, l)
		if !ok {
			t.Fatalf("no text of %v of %v", l, kinds)
		}
		read, before := counts(len(kinds), 0), 55
		for _, part := range strings.Split(text, "+") {
			if text == "0" {
				break
			}
			x := readNumbers(part, "x")
			i := slices.Index(kinds, x[1])
			if i < 0 || x[0] < 1 || x[1] >= before || part != strconv.Itoa(x[0])+"x"+strconv.Itoa(x[1]) {
				t.Fatalf("%v of %v: %q", l, kinds, text)
			}
			read[i], before = x[0], x[1]
		}
		if !slices.Equal(read, l) {
			t.Fatalf("%v of %v: %q", l, kinds, text)
		}
	}
}

// refuseWidth checks that no function on a width takes these arguments.
func refuseWidth(t *testing.T, kinds []int, n int) {
	t.Helper()
	if is, ok := impl.CanFill(kinds, n); is || ok {
		t.Errorf("%.100v can fill %d: %v %v", kinds, n, is, ok)
	}
	if l, ok := impl.FewestSpaces(kinds, n); len(l) != 0 || ok {
		t.Errorf("fewest of %.100v for %d: %v %v", kinds, n, l, ok)
	}
	if l, ok := impl.MissingSums(kinds, n); len(l) != 0 || ok {
		t.Errorf("missing of %.100v up to %d: %v %v", kinds, n, l, ok)
	}
	if ways, ok := impl.WaysToFill(kinds, n); ways != 0 || ok {
		t.Errorf("ways of %.100v for %d: %d %v", kinds, n, ways, ok)
	}
	if x, ok := impl.NearestFill(kinds, n); x != 0 || ok {
		t.Errorf("nearest of %.100v to %d: %d %v", kinds, n, x, ok)
	}
	if x, ok := impl.ThinnestNeeded(kinds, n); x != 0 || ok {
		t.Errorf("thinnest of %.100v for %d: %d %v", kinds, n, x, ok)
	}
	for _, stock := range [][]int{counts(len(kinds), 0), counts(len(kinds), 400), counts(3, 5), nil} {
		refuseStockOfSpaces(t, kinds, stock, n)
	}
}

func refuseStockOfSpaces(t *testing.T, kinds, stock []int, n int) {
	t.Helper()
	if l, ok := impl.FillFromStock(kinds, stock, n); len(l) != 0 || ok {
		t.Errorf("%d with %.100v of %.100v: %v %v", n, stock, kinds, l, ok)
	}
}

func refuseSpacesText(t *testing.T, kinds, l []int) {
	t.Helper()
	if s, ok := impl.SpacesText(kinds, l); s != "" || ok {
		t.Errorf("%.100v of %.100v: %.100q %v", l, kinds, s, ok)
	}
}

func TestInvalidSpaces(t *testing.T) {
	for _, kinds := range invalidSpaces() {
		for _, n := range slices.Concat(validWidths, invalidWidths) {
			refuseWidth(t, kinds, n)
		}
		for _, l := range [][]int{counts(len(kinds), 0), counts(len(kinds), 1), counts(len(kinds), 400), counts(len(kinds), 401), counts(3, 1), {1}, {0}, nil} {
			refuseSpacesText(t, kinds, l)
		}
	}
}

func TestInvalidWidths(t *testing.T) {
	for _, kinds := range validSpaces() {
		for _, n := range invalidWidths {
			refuseWidth(t, kinds, n)
		}
		for n := -10; n < 420; n++ {
			if _, ok := impl.CanFill(kinds, n); ok != (n >= 0 && n <= 400) {
				t.Errorf("%v can fill %d: %v", kinds, n, ok)
			}
		}
	}
}

func TestInvalidSpaceCounts(t *testing.T) {
	for _, kinds := range validSpaces() {
		for _, l := range invalidSpaceCounts(len(kinds)) {
			for _, n := range slices.Concat(validWidths, invalidWidths) {
				refuseStockOfSpaces(t, kinds, l, n)
			}
			refuseSpacesText(t, kinds, l)
		}
	}
	for count := -5; count < 410; count++ {
		valid := count >= 0 && count <= 400
		for i := range 3 {
			l := withCount([]int{3, 0, 4}, i, count)
			if _, ok := impl.FillFromStock(exampleSpaces(), l, 0); ok != valid {
				t.Errorf("the stock %v: %v", l, ok)
			}
			if _, ok := impl.SpacesText(exampleSpaces(), l); ok != valid {
				t.Errorf("the counts %v: %v", l, ok)
			}
		}
	}
}

// spaceResults are the results of all functions on spaces, each with its success.
type spaceResults struct {
	areSpaces, can         bool
	numbers                [3]int
	text                   string
	done                   [8]bool
	fewest, missing, stock []int
}

func spaceResultsOf(kinds, l []int, n int) (s spaceResults) {
	s.areSpaces = impl.AreSpaces(kinds)
	s.can, s.done[0] = impl.CanFill(kinds, n)
	s.fewest, s.done[1] = impl.FewestSpaces(kinds, n)
	s.missing, s.done[2] = impl.MissingSums(kinds, n)
	s.numbers[0], s.done[3] = impl.WaysToFill(kinds, n)
	s.numbers[1], s.done[4] = impl.NearestFill(kinds, n)
	s.stock, s.done[5] = impl.FillFromStock(kinds, l, n)
	s.numbers[2], s.done[6] = impl.ThinnestNeeded(kinds, n)
	s.text, s.done[7] = impl.SpacesText(kinds, l)
	return s
}

func (s spaceResults) lists() [][]int { return [][]int{s.fewest, s.missing, s.stock} }

// sameSpaceResults compares results; their lists are overwritten.
func sameSpaceResults(a, b spaceResults) bool {
	same := slices.EqualFunc(a.lists(), b.lists(), slices.Equal[[]int])
	for _, l := range append(a.lists(), b.lists()...) {
		overwrite(l, true)
	}
	return same && a.areSpaces == b.areSpaces && a.can == b.can && a.numbers == b.numbers && a.text == b.text && a.done == b.done
}

// TestSpacesStay calls the functions with lists that have spare capacity, of which they must neither take nor change anything, and overwrites the results.
func TestSpacesStay(t *testing.T) {
	for _, given := range slices.Concat(validSpaces(), invalidSpaces()) {
		stocks := [][]int{nil, counts(len(given), 0), counts(len(given), 400), counts(len(given), 7)}
		if len(given) > 0 {
			stocks = append(stocks, invalidSpaceCounts(len(given))...)
		}
		for k, stock := range stocks {
			n := []int{0, 54, 400, 401, 378}[k%5]
			// What is behind the kinds would be one more kind, and what is behind the stock one more count.
			kinds, kindsStay := guarded(t, "kinds", given, 54)
			l, stockStays := guarded(t, "stock", stock, 400)
			plain := spaceResultsOf(slices.Clip(slices.Clone(given)), slices.Clip(slices.Clone(stock)), n)
			s := spaceResultsOf(kinds, l, n)
			for i, x := range s.lists() {
				if shareMemory(x, kinds) || shareMemory(x, l) {
					t.Errorf("%.100v, %.100v, %d: a result shares memory with an argument", given, stock, n)
				}
				for _, y := range s.lists()[:i] {
					if shareMemory(x, y) {
						t.Errorf("%.100v, %.100v, %d: results share memory", given, stock, n)
					}
				}
			}
			if !sameSpaceResults(s, plain) {
				t.Errorf("%.100v, %.100v, %d: %v, without spare capacity %v", given, stock, n, s, plain)
			}
			kindsStay()
			stockStays()
		}
	}
}

// TestSpaceResultsAreNew checks that the same call gives the same result when an earlier one has been overwritten.
func TestSpaceResultsAreNew(t *testing.T) {
	kinds, stock := exampleSpaces(), []int{2, 1, 0}
	for range 2 {
		fewest, _ := impl.FewestSpaces(kinds, 14)
		missing, _ := impl.MissingSums(kinds, 11)
		filled, _ := impl.FillFromStock(kinds, stock, 14)
		if !slices.Equal(fewest, []int{2, 1, 0}) || !slices.Equal(missing, []int{1, 2, 3, 5, 7, 11}) || !slices.Equal(filled, []int{2, 1, 0}) {
			t.Error(fewest, missing, filled)
		}
		for _, x := range [][]int{fewest, missing, filled} {
			overwrite(x, true)
		}
		if !slices.Equal(kinds, exampleSpaces()) || !slices.Equal(stock, []int{2, 1, 0}) {
			t.Fatal("an argument was changed:", kinds, stock)
		}
	}
}
