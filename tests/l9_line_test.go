package tests

import (
	"math"
	"math/rand"
	"slices"
	"strings"
	"testing"

	"loop.example/g01054/impl"
)

// readRule reads the least, the normal and the greatest space, separated by slashes.
func readRule(text string) impl.Rule {
	n := readNumbers(text, "/")
	return impl.Rule{Least: n[0], Normal: n[1], Most: n[2]}
}

func exampleLine() []int     { return []int{20, 30, 25} }
func exampleRule() impl.Rule { return readRule("3/5/8") }

// lineFont has ligatures, and sorts so wide that words can be wider than those of a line.
func lineFont() []impl.Sort {
	return font("f6", "ff11", "ffi15", "fi10", "g7", "i5", "n10", "z54")
}

func validRules() []impl.Rule {
	var rules []impl.Rule
	for _, text := range []string{"3/5/8", "1/1/1", "54/54/54", "1/1/54", "1/54/54", "1/27/54", "7/7/7", "53/54/54", "1/1/2", "4/4/9", "4/9/9"} {
		rules = append(rules, readRule(text))
	}
	return rules
}

func invalidRules() []impl.Rule {
	var rules []impl.Rule
	for _, text := range []string{
		"0/0/0", "0/5/8", "-1/5/8", "-54/5/8", "0/1/54", "0/54/54", // Least less than 1
		"3/5/55", "3/55/55", "55/55/55", "1/54/55", "54/54/55", "3/5/1000", // Most greater than 54
		"6/5/8", "54/53/54", "2/1/1", "2/1/2", "3/2/8", "1/0/8", "1/-1/8", // Least greater than Normal
		"3/9/8", "1/2/1", "53/54/53", "3/54/8", "3/5/4", "5/5/4", // Normal greater than Most
		"8/5/3", "8/9/3", "54/27/1", "3/5/2", "3/5/0", "3/5/-8", "-3/-5/-8", "-8/-5/-3",
	} {
		rules = append(rules, readRule(text))
	}
	for _, n := range []int{math.MinInt, math.MinInt + 1, math.MaxInt - 1, math.MaxInt} {
		rules = append(rules, impl.Rule{Least: n, Normal: 5, Most: 8}, impl.Rule{Least: 3, Normal: n, Most: 8}, impl.Rule{Least: 3, Normal: 5, Most: n}, impl.Rule{Least: n, Normal: n, Most: n})
	}
	return rules
}

func validLines() [][]int {
	lines := [][]int{counts(20, 1), counts(20, 600), counts(19, 7), counts(20, 47), rising(20, 5, 3), rising(20, 600, -31), withCount(counts(20, 1), 19, 600)}
	for _, text := range []string{"20 30 25", "1", "600", "86", "1 1", "600 600", "1 600", "600 1", "599 2 600", "40 40 40 40"} {
		lines = append(lines, readWidths(text))
	}
	return lines
}

func invalidLines() [][]int {
	lines := [][]int{nil, {}, counts(21, 1), counts(21, 600), counts(22, 5), counts(1000, 5), counts(100000, 1), counts(21, 0), counts(21, 601)}
	for _, width := range []int{0, -1, -600, 601, 602, 1000, math.MaxInt, math.MinInt, math.MinInt + 1} {
		lines = append(lines, []int{width}, []int{width, 30, 25}, []int{20, width, 25}, []int{20, 30, width}, counts(3, width),
			withCount(counts(20, 1), 0, width), withCount(counts(20, 1), 19, width), withCount(counts(20, 600), 10, width))
	}
	return lines
}

var (
	validMeasures   = []int{1, 2, 86, 600, 1999, 2000}
	invalidMeasures = []int{0, -1, -86, -2000, 2001, 2002, 4000, math.MaxInt, math.MinInt, math.MinInt + 1}
)

func TestLineConstants(t *testing.T) {
	if impl.LineFits != 0 || impl.LineTight != 1 || impl.LineLoose != 2 || impl.LineAlone != 3 {
		t.Error(impl.LineFits, impl.LineTight, impl.LineLoose, impl.LineAlone)
	}
}

func TestIsRule(t *testing.T) {
	for _, r := range validRules() {
		if !impl.IsRule(r) {
			t.Errorf("%v is a rule", r)
		}
	}
	for _, r := range invalidRules() {
		if impl.IsRule(r) {
			t.Errorf("%v is no rule", r)
		}
	}
	for least := -2; least <= 57; least++ {
		for normal := -2; normal <= 57; normal++ {
			for most := -2; most <= 57; most++ {
				r := impl.Rule{Least: least, Normal: normal, Most: most}
				inRange := least >= 1 && normal >= 1 && most >= 1 && least <= 54 && normal <= 54 && most <= 54
				if impl.IsRule(r) != (inRange && slices.IsSorted([]int{least, normal, most})) {
					t.Fatalf("%v: %v", r, impl.IsRule(r))
				}
			}
		}
	}
}

func TestLineWidths(t *testing.T) {
	cases := []struct {
		line, rule           string
		least, natural, most int
	}{
		{"20 30 25", "3/5/8", 81, 85, 91},
		{"20 30 25", "1/1/1", 77, 77, 77},
		{"20 30 25", "1/54/54", 77, 183, 183},
		{"20 30 25", "1/1/54", 77, 77, 183},
		{"25 30 20", "3/5/8", 81, 85, 91},
		{"20 30", "3/5/8", 53, 55, 58},
		// A word alone has no space.
		{"1", "3/5/8", 1, 1, 1},
		{"1", "54/54/54", 1, 1, 1},
		{"86", "3/5/8", 86, 86, 86},
		{"600", "1/27/54", 600, 600, 600},
		{"1 1", "1/1/1", 3, 3, 3},
		{"1 1", "1/27/54", 3, 29, 56},
		{"600 600", "1/27/54", 1201, 1227, 1254},
		{"1 600 1", "2/3/4", 606, 608, 610},
		// Lines that are wider than any measure.
		{"600 600 600 600", "1/2/3", 2403, 2406, 2409},
	}
	for _, c := range cases {
		checkLineWidths(t, readWidths(c.line), readRule(c.rule), c.least, c.natural, c.most)
	}
	checkLineWidths(t, counts(20, 1), readRule("1/1/1"), 39, 39, 39)
	checkLineWidths(t, counts(20, 600), readRule("54/54/54"), 13026, 13026, 13026)
	checkLineWidths(t, counts(20, 600), readRule("1/27/54"), 12019, 12513, 13026)
	checkLineWidths(t, counts(19, 100), readRule("1/2/3"), 1918, 1936, 1954)
	checkLineWidths(t, rising(20, 1, 1), readRule("3/5/8"), 267, 305, 362)
}

func checkLineWidths(t *testing.T, words []int, r impl.Rule, least, natural, most int) {
	t.Helper()
	if n, ok := impl.NaturalWidth(words, r); n != natural || !ok {
		t.Errorf("natural width of %v with %v: %d %v, want %d", words, r, n, ok, natural)
	}
	if a, b, ok := impl.WidthBounds(words, r); a != least || b != most || !ok {
		t.Errorf("bounds of %v with %v: %d %d %v, want %d %d", words, r, a, b, ok, least, most)
	}
}

// lineCases tell the spaces of a line, or why there are none, their cost, and how many words fit.
var lineCases = []struct {
	line, rule string
	measure    int
	spaces     string
	why        int
	cost       int
	fit        int
}{
	{"20 30 25", "3/5/8", 86, "6 5", impl.LineFits, 1, 3},
	// Each measure from Least spaces to Most spaces, and one unit narrower and wider.
	{"20 30 25", "3/5/8", 80, "", impl.LineTight, 0, 2},
	{"20 30 25", "3/5/8", 81, "3 3", impl.LineFits, 8, 3},
	{"20 30 25", "3/5/8", 82, "4 3", impl.LineFits, 5, 3},
	{"20 30 25", "3/5/8", 83, "4 4", impl.LineFits, 2, 3},
	{"20 30 25", "3/5/8", 84, "5 4", impl.LineFits, 1, 3},
	{"20 30 25", "3/5/8", 85, "5 5", impl.LineFits, 0, 3},
	{"20 30 25", "3/5/8", 87, "6 6", impl.LineFits, 2, 3},
	{"20 30 25", "3/5/8", 88, "7 6", impl.LineFits, 5, 3},
	{"20 30 25", "3/5/8", 89, "7 7", impl.LineFits, 8, 3},
	{"20 30 25", "3/5/8", 90, "8 7", impl.LineFits, 13, 3},
	{"20 30 25", "3/5/8", 91, "8 8", impl.LineFits, 18, 3},
	{"20 30 25", "3/5/8", 92, "", impl.LineLoose, 0, 3},
	{"20 30 25", "3/5/8", 2000, "", impl.LineLoose, 0, 3},
	{"20 30 25", "3/5/8", 79, "", impl.LineTight, 0, 2},
	{"20 30 25", "3/5/8", 75, "", impl.LineTight, 0, 2}, // no room for any space
	{"20 30 25", "3/5/8", 74, "", impl.LineTight, 0, 2},
	{"20 30 25", "3/5/8", 1, "", impl.LineTight, 0, 0},
	// How many words fit: each width with Least spaces itself, one unit less and one more.
	{"20 30 25", "3/5/8", 19, "", impl.LineTight, 0, 0},
	{"20 30 25", "3/5/8", 20, "", impl.LineTight, 0, 1},
	{"20 30 25", "3/5/8", 21, "", impl.LineTight, 0, 1},
	{"20 30 25", "3/5/8", 50, "", impl.LineTight, 0, 1}, // two words, but not the space
	{"20 30 25", "3/5/8", 52, "", impl.LineTight, 0, 1},
	{"20 30 25", "3/5/8", 53, "", impl.LineTight, 0, 2},
	{"20 30 25", "3/5/8", 54, "", impl.LineTight, 0, 2},
	{"20 30 25", "3/5/8", 60, "", impl.LineTight, 0, 2},
	// A later word that fits alone does not fit behind one that does not.
	{"20 600 1", "3/5/8", 100, "", impl.LineTight, 0, 1},
	{"600 1 1", "3/5/8", 100, "", impl.LineTight, 0, 0},
	// Spaces of one width only.
	{"20 30 25", "5/5/5", 84, "", impl.LineTight, 0, 2},
	{"20 30 25", "5/5/5", 85, "5 5", impl.LineFits, 0, 3},
	{"20 30 25", "5/5/5", 86, "", impl.LineLoose, 0, 3},
	{"1 1", "1/1/1", 2, "", impl.LineTight, 0, 1},
	{"1 1", "1/1/1", 3, "1", impl.LineFits, 0, 2},
	{"1 1", "1/1/1", 4, "", impl.LineLoose, 0, 2},
	{"1 1", "54/54/54", 55, "", impl.LineTight, 0, 1},
	{"1 1", "54/54/54", 56, "54", impl.LineFits, 0, 2},
	{"1 1", "54/54/54", 57, "", impl.LineLoose, 0, 2},
	// A word alone.
	{"86", "3/5/8", 86, "", impl.LineFits, 0, 1},
	{"86", "3/5/8", 85, "", impl.LineAlone, 0, 0},
	{"86", "3/5/8", 87, "", impl.LineAlone, 0, 1},
	{"86", "3/5/8", 89, "", impl.LineAlone, 0, 1},
	{"86", "3/5/8", 2000, "", impl.LineAlone, 0, 1},
	{"86", "3/5/8", 1, "", impl.LineAlone, 0, 0},
	{"1", "1/1/1", 1, "", impl.LineFits, 0, 1},
	{"1", "54/54/54", 2, "", impl.LineAlone, 0, 1},
	{"600", "1/1/54", 600, "", impl.LineFits, 0, 1},
	{"600", "1/1/54", 599, "", impl.LineAlone, 0, 0},
	{"600", "1/1/54", 601, "", impl.LineAlone, 0, 1},
	// One gap.
	{"10 10", "1/27/54", 20, "", impl.LineTight, 0, 1},
	{"10 10", "1/27/54", 21, "1", impl.LineFits, 676, 2},
	{"10 10", "1/27/54", 47, "27", impl.LineFits, 0, 2},
	{"10 10", "1/27/54", 48, "28", impl.LineFits, 1, 2},
	{"10 10", "1/27/54", 74, "54", impl.LineFits, 729, 2},
	{"10 10", "1/27/54", 75, "", impl.LineLoose, 0, 2},
	{"10 10", "1/54/54", 21, "1", impl.LineFits, 2809, 2},
	{"10 10", "1/1/54", 74, "54", impl.LineFits, 2809, 2},
	// Three gaps: none, one or two of the first spaces are wider.
	{"40 40 40 40", "3/5/8", 168, "", impl.LineTight, 0, 3},
	{"40 40 40 40", "3/5/8", 169, "3 3 3", impl.LineFits, 12, 4},
	{"40 40 40 40", "3/5/8", 170, "4 3 3", impl.LineFits, 9, 4},
	{"40 40 40 40", "3/5/8", 171, "4 4 3", impl.LineFits, 6, 4},
	{"40 40 40 40", "3/5/8", 172, "4 4 4", impl.LineFits, 3, 4},
	{"40 40 40 40", "3/5/8", 176, "6 5 5", impl.LineFits, 1, 4},
	{"40 40 40 40", "3/5/8", 182, "8 7 7", impl.LineFits, 17, 4},
	{"40 40 40 40", "3/5/8", 183, "8 8 7", impl.LineFits, 22, 4},
	{"40 40 40 40", "3/5/8", 184, "8 8 8", impl.LineFits, 27, 4},
	{"40 40 40 40", "3/5/8", 185, "", impl.LineLoose, 0, 4},
	// The widths of the words do not tell which spaces are wider.
	{"1 99 1 99", "3/5/8", 217, "6 6 5", impl.LineFits, 2, 4},
	{"99 1 99 1", "3/5/8", 217, "6 6 5", impl.LineFits, 2, 4},
	// The greatest measure and the greatest words.
	{"600 600 600", "1/1/54", 1801, "", impl.LineTight, 0, 2},
	{"600 600 600", "1/1/54", 1802, "1 1", impl.LineFits, 0, 3},
	{"600 600 600", "1/1/54", 1908, "54 54", impl.LineFits, 5618, 3},
	{"600 600 600", "1/1/54", 1909, "", impl.LineLoose, 0, 3},
	{"600 600 600", "1/1/54", 2000, "", impl.LineLoose, 0, 3},
	{"600 600 600 199", "1/1/54", 2000, "", impl.LineTight, 0, 3},
	{"600 600 600 197", "1/1/54", 2000, "1 1 1", impl.LineFits, 0, 4},
	{"600 600 600 198", "1/1/54", 2000, "", impl.LineTight, 0, 3},
	{"600 600 600 35", "1/1/54", 2000, "", impl.LineLoose, 0, 4}, // 165 units for three spaces
	{"600 600 600 38", "1/1/54", 2000, "54 54 54", impl.LineFits, 8427, 4},
	{"600 600 600 600", "1/1/54", 2000, "", impl.LineTight, 0, 3},
}

// checkLine checks what is told of a line and a measure.
func checkLine(t *testing.T, words []int, r impl.Rule, measure int, spaces []int, why, cost, fit int) {
	t.Helper()
	fits := why == impl.LineFits
	if l, ok := impl.JustifyLine(words, r, measure); !slices.Equal(l, spaces) || ok != fits {
		t.Errorf("spaces of %v with %v for %d: %v %v, want %v", words, r, measure, l, ok, spaces)
	}
	if n, ok := impl.WhyNotJustified(words, r, measure); n != why || !ok {
		t.Errorf("why not %v with %v for %d: %d %v, want %d", words, r, measure, n, ok, why)
	}
	if n, ok := impl.CostOfLine(words, r, measure); n != cost || ok != fits {
		t.Errorf("cost of %v with %v for %d: %d %v, want %d", words, r, measure, n, ok, cost)
	}
	if n, ok := impl.WordsThatFit(words, r, measure); n != fit || !ok {
		t.Errorf("words of %v that fit with %v for %d: %d %v, want %d", words, r, measure, n, ok, fit)
	}
}

func TestLines(t *testing.T) {
	for _, c := range lineCases {
		checkLine(t, readWidths(c.line), readRule(c.rule), c.measure, readWidths(c.spaces), c.why, c.cost, c.fit)
	}
}

func TestFullLines(t *testing.T) {
	ones := counts(20, 1)
	checkLine(t, ones, readRule("1/1/1"), 39, counts(19, 1), impl.LineFits, 0, 20)
	checkLine(t, ones, readRule("1/1/1"), 38, nil, impl.LineTight, 0, 19)
	checkLine(t, ones, readRule("1/1/1"), 40, nil, impl.LineLoose, 0, 20)
	checkLine(t, ones, readRule("1/2/3"), 57, slices.Concat(counts(18, 2), counts(1, 1)), impl.LineFits, 1, 20)
	checkLine(t, ones, readRule("1/2/3"), 59, slices.Concat(counts(1, 3), counts(18, 2)), impl.LineFits, 1, 20)
	checkLine(t, ones, readRule("54/54/54"), 1046, counts(19, 54), impl.LineFits, 0, 20)
	checkLine(t, ones, readRule("54/54/54"), 1045, nil, impl.LineTight, 0, 19)
	checkLine(t, ones, readRule("54/54/54"), 1047, nil, impl.LineLoose, 0, 20)
	checkLine(t, ones, readRule("1/1/54"), 1046, counts(19, 54), impl.LineFits, 53371, 20)
	checkLine(t, counts(20, 47), readRule("1/1/54"), 1966, counts(19, 54), impl.LineFits, 53371, 20)
	checkLine(t, counts(20, 47), readRule("1/1/54"), 1967, nil, impl.LineLoose, 0, 20)
	checkLine(t, counts(20, 99), readRule("1/1/54"), 1999, counts(19, 1), impl.LineFits, 0, 20)
	checkLine(t, counts(20, 99), readRule("1/1/54"), 2000, slices.Concat(counts(1, 2), counts(18, 1)), impl.LineFits, 1, 20)
	checkLine(t, counts(20, 600), readRule("1/1/54"), 2000, nil, impl.LineTight, 0, 3)
	checkLine(t, counts(20, 600), readRule("54/54/54"), 600, nil, impl.LineTight, 0, 1)
	checkLine(t, counts(20, 600), readRule("54/54/54"), 599, nil, impl.LineTight, 0, 0)
}

func TestBestMeasure(t *testing.T) {
	cases := []struct {
		line, rule string
		from, to   int
		best       int // 0 for none
	}{
		{"20 30 25", "3/5/8", 80, 100, 85},
		{"20 30 25", "3/5/8", 1, 2000, 85},
		// The first and the last one.
		{"20 30 25", "3/5/8", 85, 100, 85},
		{"20 30 25", "3/5/8", 80, 85, 85},
		{"20 30 25", "3/5/8", 86, 100, 86},
		{"20 30 25", "3/5/8", 88, 2000, 88},
		{"20 30 25", "3/5/8", 80, 84, 84},
		{"20 30 25", "3/5/8", 1, 83, 83},
		{"20 30 25", "3/5/8", 1, 81, 81},
		{"20 30 25", "3/5/8", 91, 2000, 91},
		// One alone.
		{"20 30 25", "3/5/8", 80, 80, 0},
		{"20 30 25", "3/5/8", 81, 81, 81},
		{"20 30 25", "3/5/8", 85, 85, 85},
		{"20 30 25", "3/5/8", 91, 91, 91},
		{"20 30 25", "3/5/8", 92, 92, 0},
		{"20 30 25", "3/5/8", 1, 1, 0},
		{"20 30 25", "3/5/8", 2000, 2000, 0},
		// From greater than to.
		{"20 30 25", "3/5/8", 86, 85, 0},
		{"20 30 25", "3/5/8", 85, 84, 0},
		{"20 30 25", "3/5/8", 2000, 1, 0},
		// None that can be justified.
		{"20 30 25", "3/5/8", 1, 80, 0},
		{"20 30 25", "3/5/8", 92, 2000, 0},
		{"600 600 600 600", "3/5/8", 1, 2000, 0},
		{"601 30", "3/5/8", 1, 2000, 0}, // no line
		// Several with the same cost: the one between them has less.
		{"20 30 25", "3/5/8", 84, 86, 85},
		{"20 30 25", "3/5/8", 83, 87, 85},
		{"20 30 25", "3/5/8", 81, 89, 85},
		// One space whose Normal one is Least or Most.
		{"10 10", "1/1/54", 1, 2000, 21},
		{"10 10", "1/54/54", 1, 2000, 74},
		{"10 10", "1/54/54", 1, 73, 73},
		{"10 10", "1/1/54", 22, 2000, 22},
		// A word alone.
		{"86", "3/5/8", 1, 2000, 86},
		{"86", "3/5/8", 86, 86, 86},
		{"86", "3/5/8", 86, 2000, 86},
		{"86", "3/5/8", 1, 86, 86},
		{"86", "3/5/8", 87, 2000, 0},
		{"86", "3/5/8", 1, 85, 0},
		{"1", "3/5/8", 1, 2000, 1},
		{"1", "3/5/8", 2, 2000, 0},
		{"600", "3/5/8", 1, 2000, 600},
		// The greatest measures.
		{"600 600 600 191", "3/3/8", 1, 2000, 2000},
		{"600 600 600 192", "3/3/8", 1, 2000, 0},
		{"600 600 600 190", "3/5/8", 1, 2000, 2000}, // with Normal spaces it would be 2005
		{"600 600 600 185", "3/5/8", 1, 2000, 2000},
		{"600 600 600 184", "3/5/8", 1, 2000, 1999},
	}
	for _, c := range cases {
		if n, ok := impl.BestMeasure(readWidths(c.line), readRule(c.rule), c.from, c.to); n != c.best || ok != (c.best > 0) {
			t.Errorf("best measure of %s with %s from %d to %d: %d %v, want %d", c.line, c.rule, c.from, c.to, n, ok, c.best)
		}
	}
	if n, ok := impl.BestMeasure(counts(20, 1), readRule("1/27/54"), 1, 2000); n != 533 || !ok {
		t.Error("best measure of 20 words:", n, ok)
	}
	if n, ok := impl.BestMeasure(counts(20, 1), readRule("1/27/54"), 534, 2000); n != 534 || !ok {
		t.Error("best measure of 20 words from 534 on:", n, ok)
	}
}

func TestSpacesFor(t *testing.T) {
	eleven := strings.Repeat("z", 11) // 594 units
	cases := []struct {
		words   string
		rule    string
		measure int
		can     bool
		spaces  string
	}{
		{"n in f", "3/5/8", 41, true, "5 5"},
		{"n in f", "3/5/8", 40, true, "5 4"},
		{"n in f", "3/5/8", 36, false, ""},
		{"n in f", "3/5/8", 37, true, "3 3"},
		{"n in f", "3/5/8", 47, true, "8 8"},
		{"n in f", "3/5/8", 48, false, ""},
		// Set with ligatures: 20, 25, 11 and 21 units.
		{"fin", "3/5/8", 20, true, ""},
		{"fin", "3/5/8", 21, false, ""},
		{"ffin", "3/5/8", 25, true, ""},
		{"ffin", "3/5/8", 26, false, ""}, // as ff and in it would be 26, and letter for letter 27
		{"ffin", "3/5/8", 27, false, ""},
		{"fin ffin ff", "3/5/8", 66, true, "5 5"},
		{"fin ffin ff", "3/5/8", 65, true, "5 4"},
		{"fin ffin ff", "3/5/8", 61, false, ""},
		{"fin ffin ff fffi", "3/5/8", 94, true, "6 6 5"}, // the last one as ff and fi
		{"i i i i", "1/1/2", 24, true, "2 1 1"},
		// A word that cannot be set.
		{"fan", "3/5/8", 21, false, ""},
		{"a", "3/5/8", 10, false, ""},
		{"fin fan", "3/5/8", 45, false, ""},
		{"fan fin", "3/5/8", 45, false, ""},
		{"fin fina", "3/5/8", 45, false, ""},
		{"fin fin fin a", "3/5/8", 80, false, ""},
		// No word.
		{"", "3/5/8", 1, false, ""},
		{"", "3/5/8", 5, false, ""},
		// As wide as a word of a line may be, and wider.
		{eleven + "f", "3/5/8", 600, true, ""},
		{eleven + "g", "3/5/8", 601, false, ""},
		{eleven + "f n", "3/5/8", 615, true, "5"},
		{eleven + "g n", "3/5/8", 616, false, ""},
		{"n " + eleven + "g", "3/5/8", 616, false, ""},
		{"zzzzzzzzzzzzzzzz", "3/5/8", 864, false, ""},
		{"zzzzzzzzzzzzzzzzz", "3/5/8", 918, false, ""}, // no word
	}
	for _, c := range cases {
		l, ok := impl.SpacesFor(lineFont(), copyOf(c.words), readRule(c.rule), c.measure)
		if !slices.Equal(l, readWidths(c.spaces)) || ok != c.can {
			t.Errorf("spaces for %q with %s and %d: %v %v, want %s", c.words, c.rule, c.measure, l, ok, c.spaces)
		}
	}
}

// TestSpacesForFonts takes words that are set otherwise than they could be.
func TestSpacesForFonts(t *testing.T) {
	// The ligature is wider than its letters, but set.
	f := font("f6", "ff20")
	if l, ok := impl.SpacesFor(f, []string{"fff", "f"}, exampleRule(), 37); !slices.Equal(l, []int{5}) || !ok {
		t.Error("wide ligature:", l, ok)
	}
	if l, ok := impl.SpacesFor(f, []string{"fff", "f"}, exampleRule(), 29); len(l) != 0 || ok {
		t.Error("letters instead of a wide ligature:", l, ok)
	}
	// The ligature ab is set, so that the word cannot be, though a and bc would be possible.
	f = font("a5", "ab9", "bc7")
	if l, ok := impl.SpacesFor(f, []string{"abc"}, exampleRule(), 12); len(l) != 0 || ok {
		t.Error("word that cannot be set:", l, ok)
	}
	if l, ok := impl.SpacesFor(f, []string{"a", "bc"}, exampleRule(), 17); !slices.Equal(l, []int{5}) || !ok {
		t.Error("two words:", l, ok)
	}
}

func TestSpacesForManyWords(t *testing.T) {
	f := lineFont()
	for n := range 45 {
		l, ok := impl.SpacesFor(f, manyWords(n), exampleRule(), max(1, 25*n-5))
		if n < 1 || n > 20 {
			if len(l) != 0 || ok {
				t.Error(n, "words:", l, ok)
			}
		} else if !slices.Equal(l, counts(n-1, 5)) || !ok {
			t.Error(n, "words:", l, ok)
		}
	}
	// The last one of 20 counts too.
	if l, ok := impl.SpacesFor(f, append(manyWords(19), "n"), exampleRule(), 486); !slices.Equal(l, slices.Concat([]int{6}, counts(18, 5))) || !ok {
		t.Error("20 words, the last one shorter:", l, ok)
	}
	if l, ok := impl.SpacesFor(f, append(manyWords(19), "a"), exampleRule(), 486); len(l) != 0 || ok {
		t.Error("20 words, the last one cannot be set:", l, ok)
	}
}

// dealtSpaces begins with Least spaces and makes them wider by one unit after the other, from the first gap to the last one and again, as long as there is room; it tells why the line cannot be justified like this.
func dealtSpaces(words []int, r impl.Rule, measure int) ([]int, int) {
	spaces := counts(len(words)-1, r.Least)
	room := measure - sumOfCounts(words) - sumOfCounts(spaces)
	if len(spaces) == 0 && room != 0 {
		return nil, impl.LineAlone
	}
	if room < 0 {
		return nil, impl.LineTight
	}
	for i := range room {
		gap := i % len(spaces)
		if spaces[gap] == r.Most {
			return nil, impl.LineLoose
		}
		spaces[gap]++
	}
	return spaces, impl.LineFits
}

func costOfSpaces(spaces []int, normal int) int {
	cost := 0
	for _, space := range spaces {
		cost += (space - normal) * (space - normal)
	}
	return cost
}

// fittingWords counts the words whose last unit, with Least spaces before them, is within the measure.
func fittingWords(words []int, r impl.Rule, measure int) int {
	fit := 0
	for n := 1; n <= len(words); n++ {
		if sumOfCounts(words[:n])+(n-1)*r.Least <= measure {
			fit = n
		}
	}
	return fit
}

// checkDealt checks all that is told of a line and a measure against independent reckoning, and tells why the line is not justified.
func checkDealt(t *testing.T, words []int, r impl.Rule, measure int) int {
	t.Helper()
	spaces, why := dealtSpaces(words, r, measure)
	checkLine(t, words, r, measure, spaces, why, costOfSpaces(spaces, r.Normal), fittingWords(words, r, measure))
	if why != impl.LineFits {
		return why
	}
	// Promise 9 itself, and that no space is wider than one before it.
	l, _ := impl.JustifyLine(words, r, measure)
	if len(l) != len(words)-1 || sumOfCounts(words)+sumOfCounts(l) != measure {
		t.Errorf("spaces of %v with %v for %d: %v do not fill it", words, r, measure, l)
	}
	for i, space := range l {
		if space < r.Least || space > r.Most || space > l[0] || space < l[0]-1 || i > 0 && space > l[i-1] {
			t.Errorf("spaces of %v with %v for %d: %v", words, r, measure, l)
		}
	}
	return why
}

// checkLineBounds checks that a line is justified just from its least width to its greatest one, and costs nothing with its natural width.
func checkLineBounds(t *testing.T, words []int, r impl.Rule) {
	t.Helper()
	gaps := len(words) - 1
	sum := sumOfCounts(words)
	checkLineWidths(t, words, r, sum+gaps*r.Least, sum+gaps*r.Normal, sum+gaps*r.Most)
	least, most, _ := impl.WidthBounds(words, r)
	natural, _ := impl.NaturalWidth(words, r)
	for _, measure := range []int{least - 1, least, least + 1, natural - 1, natural, natural + 1, most - 1, most, most + 1} {
		if measure < 1 || measure > 2000 {
			continue
		}
		why := checkDealt(t, words, r, measure)
		if (why == impl.LineFits) != (measure >= least && measure <= most) {
			t.Errorf("%v with %v for %d of %d to %d: %d", words, r, measure, least, most, why)
		}
	}
}

// bestOfMeasures reckons the cost of each measure.
func bestOfMeasures(words []int, r impl.Rule, from, to int) int {
	best, least := 0, math.MaxInt
	for measure := to; measure >= from; measure-- {
		spaces, why := dealtSpaces(words, r, measure)
		if cost := costOfSpaces(spaces, r.Normal); why == impl.LineFits && cost <= least {
			best, least = measure, cost
		}
	}
	return best
}

func checkBestMeasure(t *testing.T, words []int, r impl.Rule, from, to int) bool {
	t.Helper()
	want := bestOfMeasures(words, r, from, to)
	n, ok := impl.BestMeasure(words, r, from, to)
	if n != want || ok != (want > 0) {
		t.Fatalf("best measure of %v with %v from %d to %d: %d %v, want %d", words, r, from, to, n, ok, want)
	}
	return ok
}

// allSpaces returns all lists of n spaces of a rule, whatever they fill.
func allSpaces(n int, r impl.Rule) [][]int {
	if n == 0 {
		return [][]int{nil}
	}
	var lists [][]int
	for _, l := range allSpaces(n-1, r) {
		for space := r.Least; space <= r.Most; space++ {
			lists = append(lists, append(slices.Clone(l), space))
		}
	}
	return lists
}

// TestAllSmallLines goes over all rules up to 4 and all measures for lines of up to 4 words: a line is justified if any spaces fill the measure, and the ones it gets are among these.
func TestAllSmallLines(t *testing.T) {
	for _, text := range []string{"1", "3", "1 1", "2 5", "1 2 3", "4 1 1", "1 1 1 1", "3 2 1 2"} {
		words := readWidths(text)
		for code := range 64 {
			r := impl.Rule{Least: 1 + code%4, Normal: 1 + code/4%4, Most: 1 + code/16}
			if !slices.IsSorted([]int{r.Least, r.Normal, r.Most}) {
				continue
			}
			fillings := map[int][][]int{}
			for _, l := range allSpaces(len(words)-1, r) {
				measure := sumOfCounts(words) + sumOfCounts(l)
				fillings[measure] = append(fillings[measure], l)
			}
			for measure := 1; measure <= 25; measure++ {
				l, ok := impl.JustifyLine(words, r, measure)
				if ok != (len(fillings[measure]) > 0) || ok && !slices.ContainsFunc(fillings[measure], func(x []int) bool { return slices.Equal(x, l) }) {
					t.Fatalf("%s with %v for %d: %v %v of %v", text, r, measure, l, ok, fillings[measure])
				}
				checkDealt(t, words, r, measure)
				for to := range 25 {
					checkBestMeasure(t, words, r, measure, to+1)
				}
				// No spaces that fill the measure cost less.
				cost, _ := impl.CostOfLine(words, r, measure)
				for _, x := range fillings[measure] {
					if costOfSpaces(x, r.Normal) < cost {
						t.Fatalf("%s with %v for %d: %v costs less than %d", text, r, measure, x, cost)
					}
				}
			}
		}
	}
}

// TestAllMeasures goes over all measures.
func TestAllMeasures(t *testing.T) {
	for _, words := range validLines() {
		for _, r := range validRules() {
			checkLineBounds(t, words, r)
			for measure := 1; measure <= 2000; measure++ {
				checkDealt(t, words, r, measure)
			}
			checkBestMeasure(t, words, r, 1, 2000)
		}
	}
}

func randomRule(r *rand.Rand) impl.Rule {
	most := []int{54, 54, 6, 12}[r.Intn(4)]
	n := []int{1 + r.Intn(most), 1 + r.Intn(most), 1 + r.Intn(most)}
	slices.Sort(n)
	return impl.Rule{Least: n[0], Normal: n[1], Most: n[2]}
}

// randomLine returns a line whose words are any, or so narrow that many fit.
func randomLine(r *rand.Rand) []int {
	words := make([]int, 1+r.Intn(20))
	most := []int{600, 90, 90, 10}[r.Intn(4)]
	for i := range words {
		words[i] = 1 + r.Intn(most)
	}
	return words
}

func TestRandomLines(t *testing.T) {
	r := rand.New(rand.NewSource(61))
	var reasons [4]int
	best, none := 0, 0
	for range 4000 {
		words, rule := randomLine(r), randomRule(r)
		checkLineBounds(t, words, rule)
		least, most, _ := impl.WidthBounds(words, rule)
		from, to := 1+r.Intn(2000), 1+r.Intn(2000)
		if least <= 2000 {
			inside := min(least+r.Intn(most-least+1), 2000)
			for _, measure := range []int{inside, min(max(least-5+r.Intn(most-least+11), 1), 2000)} {
				reasons[checkDealt(t, words, rule, measure)]++
			}
			// Some ranges begin or end among the measures for which the line is justified.
			switch r.Intn(4) {
			case 0:
				from = inside
			case 1:
				to = inside
			case 2:
				from = max(inside-r.Intn(20), 1)
				to = min(inside+r.Intn(20), 2000)
			}
		}
		reasons[checkDealt(t, words, rule, 1+r.Intn(2000))]++
		if checkBestMeasure(t, words, rule, from, to) {
			best++
		} else {
			none++
		}
	}
	if min(slices.Min(reasons[:]), best, none) < 200 {
		t.Error("too few:", reasons, best, none)
	}
}

// TestRandomWordsForSpaces sets words of random fonts by independent reckoning.
func TestRandomWordsForSpaces(t *testing.T) {
	r := rand.New(rand.NewSource(62))
	done, cannot := 0, 0
	for range 6000 {
		f, rule := randomFont(r), randomRule(r)
		var words []string
		var widths []int
		canAll := true
		for range 1 + r.Intn(6) {
			word := randomLetters(r, 6)
			sorts, can := settingOf(f, word)
			canAll = canAll && can
			words = append(words, word)
			widths = append(widths, widthOf(f, sorts))
		}
		measure := 1 + r.Intn(300)
		if r.Intn(3) > 0 {
			measure = sumOfCounts(widths) + (len(widths)-1)*rule.Least + r.Intn(10)
		}
		var want []int
		if canAll {
			spaces, why := dealtSpaces(widths, rule, measure)
			want, canAll = spaces, why == impl.LineFits
		} else {
			cannot++
		}
		if l, ok := impl.SpacesFor(f, words, rule, measure); !slices.Equal(l, want) || ok != canAll {
			t.Fatalf("spaces for %v of %v with %v and %d: %v %v, want %v", words, f, rule, measure, l, ok, want)
		}
		if canAll {
			done++
		}
	}
	if min(done, cannot) < 200 {
		t.Error("too few:", done, cannot)
	}
}

// refuseLine checks that no function takes the line with the rule.
func refuseLine(t *testing.T, words []int, r impl.Rule) {
	t.Helper()
	if n, ok := impl.NaturalWidth(words, r); n != 0 || ok {
		t.Errorf("natural width of %.100v with %v: %d %v", words, r, n, ok)
	}
	if a, b, ok := impl.WidthBounds(words, r); a != 0 || b != 0 || ok {
		t.Errorf("bounds of %.100v with %v: %d %d %v", words, r, a, b, ok)
	}
	for _, measure := range slices.Concat(validMeasures, invalidMeasures) {
		refuseMeasure(t, words, r, measure)
		refuseMeasures(t, words, r, measure, 86)
		refuseMeasures(t, words, r, 86, measure)
		refuseMeasures(t, words, r, 1, measure)
	}
}

func refuseMeasure(t *testing.T, words []int, r impl.Rule, measure int) {
	t.Helper()
	if l, ok := impl.JustifyLine(words, r, measure); len(l) != 0 || ok {
		t.Errorf("spaces of %.100v with %v for %d: %v %v", words, r, measure, l, ok)
	}
	if n, ok := impl.WhyNotJustified(words, r, measure); n != 0 || ok {
		t.Errorf("why not %.100v with %v for %d: %d %v", words, r, measure, n, ok)
	}
	if n, ok := impl.WordsThatFit(words, r, measure); n != 0 || ok {
		t.Errorf("words of %.100v that fit with %v for %d: %d %v", words, r, measure, n, ok)
	}
	if n, ok := impl.CostOfLine(words, r, measure); n != 0 || ok {
		t.Errorf("cost of %.100v with %v for %d: %d %v", words, r, measure, n, ok)
	}
}

func refuseMeasures(t *testing.T, words []int, r impl.Rule, from, to int) {
	t.Helper()
	if n, ok := impl.BestMeasure(words, r, from, to); n != 0 || ok {
		t.Errorf("best measure of %.100v with %v from %d to %d: %d %v", words, r, from, to, n, ok)
	}
}

func refuseSpacesFor(t *testing.T, f []impl.Sort, words []string, r impl.Rule, measure int) {
	t.Helper()
	if l, ok := impl.SpacesFor(f, words, r, measure); len(l) != 0 || ok {
		t.Errorf("spaces for %.100q of %.100v with %v and %d: %v %v", words, f, r, measure, l, ok)
	}
}

func TestInvalidLines(t *testing.T) {
	for _, words := range invalidLines() {
		for _, r := range slices.Concat(validRules(), invalidRules()) {
			refuseLine(t, words, r)
		}
	}
}

func TestInvalidRules(t *testing.T) {
	for _, r := range invalidRules() {
		for _, words := range validLines() {
			refuseLine(t, words, r)
		}
		for measure := range 100 {
			refuseMeasure(t, exampleLine(), r, measure)
			refuseMeasure(t, []int{86}, r, measure)
			refuseSpacesFor(t, lineFont(), copyOf("fin ffin ff"), r, measure)
			refuseSpacesFor(t, lineFont(), copyOf("fin"), r, measure)
		}
		refuseMeasures(t, exampleLine(), r, 1, 2000)
		refuseMeasures(t, []int{86}, r, 1, 2000)
	}
}

func TestInvalidMeasures(t *testing.T) {
	for _, words := range validLines() {
		for _, r := range validRules() {
			for _, measure := range invalidMeasures {
				refuseMeasure(t, words, r, measure)
				for _, other := range slices.Concat(validMeasures, invalidMeasures) {
					refuseMeasures(t, words, r, measure, other)
					refuseMeasures(t, words, r, other, measure)
				}
			}
		}
	}
	for _, measure := range invalidMeasures {
		refuseSpacesFor(t, lineFont(), copyOf("fin ffin ff"), exampleRule(), measure)
		refuseSpacesFor(t, lineFont(), copyOf("n"), exampleRule(), measure)
	}
}

// TestLineLimits goes over all numbers around the limits; the measures are those for which the lines would be justified.
func TestLineLimits(t *testing.T) {
	one := readRule("1/1/1")
	for width := -5; width <= 610; width++ {
		valid := width >= 1 && width <= 600
		_, ok := impl.JustifyLine([]int{width}, one, max(width, 1))
		_, two := impl.NaturalWidth([]int{5, width, 5}, one)
		_, _, three := impl.WidthBounds([]int{5, 5, width}, one)
		if ok != valid || two != valid || three != valid {
			t.Error("width", width, ok, two, three)
		}
	}
	for n := range 30 {
		valid := n >= 1 && n <= 20
		_, ok := impl.JustifyLine(counts(n, 1), one, max(2*n-1, 1))
		_, two := impl.NaturalWidth(counts(n, 1), one)
		fit, three := impl.WordsThatFit(counts(n, 1), one, 2000)
		if ok != valid || two != valid || three != valid || valid && fit != n {
			t.Error("words", n, ok, two, three, fit)
		}
	}
	for measure := -5; measure <= 2010; measure++ {
		valid := measure >= 1 && measure <= 2000
		// Four words, or one, that fill the measure with spaces of one unit.
		words := []int{max(1, measure)}
		if measure > 7 {
			words = []int{(measure - 3) / 4, (measure - 2) / 4, (measure - 1) / 4, measure / 4}
		}
		_, ok := impl.JustifyLine(words, one, measure)
		why, two := impl.WhyNotJustified(words, one, measure)
		fit, three := impl.WordsThatFit(words, one, measure)
		if ok != valid || two != valid || three != valid || why != impl.LineFits || valid && fit != len(words) {
			t.Error("measure", measure, ok, two, three, why, fit)
		}
		_, ok = impl.CostOfLine(words, one, measure)
		best, two := impl.BestMeasure(words, one, measure, measure)
		if ok != valid || two != valid || valid && best != measure {
			t.Error("cost and best measure", measure, ok, two, best)
		}
		_, two = impl.BestMeasure(exampleLine(), exampleRule(), measure, 2000)
		_, three = impl.BestMeasure(exampleLine(), exampleRule(), 1, measure)
		if two != (valid && measure <= 91) || three != (valid && measure >= 81) {
			t.Error("from or to", measure, two, three)
		}
	}
}

func TestInvalidSpacesFor(t *testing.T) {
	for _, f := range invalidFonts() {
		for _, words := range [][]string{nil, {"fin"}, {"fin", "fin"}, manyWords(20), manyWords(21)} {
			for _, measure := range []int{1, 20, 45, 86, 600, 2000, 0, 2001} {
				refuseSpacesFor(t, f, words, exampleRule(), measure)
			}
		}
	}
	lists := append(invalidCopies(), nil, []string{}, manyWords(21), manyWords(22), manyWords(40), append(manyWords(20), "a"))
	for _, words := range lists {
		// With the greatest widths of spaces nearly all measures would do.
		for measure := -1; measure <= 2002; measure += 3 {
			refuseSpacesFor(t, exampleFont(), words, readRule("1/1/54"), measure)
		}
	}
}

// lineResults are the results of all functions on lines, each with its success.
type lineResults struct {
	isRule      bool
	numbers     [7]int
	done        [8]bool
	spaces, set []int
}

func lineResultsOf(words []int, f []impl.Sort, texts []string, r impl.Rule, measure, to int) (x lineResults) {
	x.isRule = impl.IsRule(r)
	x.numbers[0], x.done[0] = impl.NaturalWidth(words, r)
	x.numbers[1], x.numbers[2], x.done[1] = impl.WidthBounds(words, r)
	x.spaces, x.done[2] = impl.JustifyLine(words, r, measure)
	x.numbers[3], x.done[3] = impl.WhyNotJustified(words, r, measure)
	x.numbers[4], x.done[4] = impl.WordsThatFit(words, r, measure)
	x.numbers[5], x.done[5] = impl.CostOfLine(words, r, measure)
	x.numbers[6], x.done[6] = impl.BestMeasure(words, r, measure, to)
	x.set, x.done[7] = impl.SpacesFor(f, texts, r, measure)
	return x
}

// sameLineResults compares results; their lists are overwritten.
func sameLineResults(a, b lineResults) bool {
	same := slices.Equal(a.spaces, b.spaces) && slices.Equal(a.set, b.set)
	for _, l := range [][]int{a.spaces, a.set, b.spaces, b.set} {
		overwrite(l, true)
	}
	return same && a.isRule == b.isRule && a.numbers == b.numbers && a.done == b.done
}

// checkLinesStay calls the functions with lists that have spare capacity, of which they must neither take nor change anything, and overwrites the results.
func checkLinesStay(t *testing.T, given []int, font []impl.Sort, copies []string, spare int, r impl.Rule, measure, to int) {
	t.Helper()
	words, wordsStay := guarded(t, "line", given, spare)
	f, fontStays := guarded(t, "font", font, impl.Sort{Code: "zz", Set: spare})
	texts, textsStay := guarded(t, "words", copies, "n")
	plain := lineResultsOf(slices.Clip(slices.Clone(given)), slices.Clip(slices.Clone(font)), slices.Clip(slices.Clone(copies)), r, measure, to)
	x := lineResultsOf(words, f, texts, r, measure, to)
	if shareMemory(x.spaces, words) || shareMemory(x.set, words) || shareMemory(x.spaces, x.set) {
		t.Errorf("%.100v with %v for %d: a result shares memory", given, r, measure)
	}
	if !sameLineResults(x, plain) {
		t.Errorf("%.100v with %v for %d: %v, without spare capacity %v", given, r, measure, x, plain)
	}
	wordsStay()
	fontStays()
	textsStay()
}

func TestLinesStay(t *testing.T) {
	fonts := [][]impl.Sort{lineFont(), exampleFont(), nil, font("b5", "a5"), font("n0")}
	texts := [][]string{copyOf("fin n fin"), copyOf("fin"), nil, copyOf("fan n"), manyWords(21)}
	for _, given := range slices.Concat(validLines(), invalidLines()) {
		for k := range fonts {
			for _, spare := range []int{5, 600, 0, -1, 601} {
				for _, r := range []impl.Rule{exampleRule(), readRule("1/27/54"), readRule("8/5/3")} {
					checkLinesStay(t, given, fonts[k], texts[k], spare, r, 86, 120)
				}
				checkLinesStay(t, given, fonts[k], texts[k], spare, exampleRule(), []int{60, 20, 1, 2000, 0}[k], []int{2001, 2000, 90, -1, 1}[k])
			}
		}
	}
}

// TestLineResultsAreNew checks that the same call gives the same result when an earlier one has been overwritten.
func TestLineResultsAreNew(t *testing.T) {
	words := exampleLine()
	for range 2 {
		spaces, _ := impl.JustifyLine(words, exampleRule(), 86)
		set, _ := impl.SpacesFor(lineFont(), copyOf("fin ffin ff"), exampleRule(), 65)
		if !slices.Equal(spaces, []int{6, 5}) || !slices.Equal(set, []int{5, 4}) || shareMemory(spaces, set) {
			t.Error(spaces, set)
		}
		overwrite(spaces, true)
		overwrite(set, true)
		if !slices.Equal(words, exampleLine()) {
			t.Fatal("an argument was changed:", words)
		}
	}
}
