package tests

import (
	"math"
	"math/rand"
	"slices"
	"strconv"
	"strings"
	"testing"

	"loop.example/g01054/impl"
)

// counts returns n numbers that are all the same.
func counts(n, value int) []int { return slices.Repeat([]int{value}, n) }

// withCount returns a list in which one number is another one.
func withCount(l []int, i, value int) []int {
	l = slices.Clone(l)
	l[i] = value
	return l
}

// copyOf reads words that are separated by blanks.
func copyOf(text string) []string { return strings.Fields(text) }

// fullLine returns n words of 16 times the same letter.
func fullLine(letter string, n int) []string {
	return slices.Repeat([]string{strings.Repeat(letter, 16)}, n)
}

// invalidStocks returns lists that are no stock for a font of n sorts.
func invalidStocks(n int) [][]int {
	lists := [][]int{counts(n+1, 5), counts(n+1, 0), counts(n+40, 5), counts(100000, 5)}
	if n > 0 {
		lists = append(lists, nil, []int{}, counts(n-1, 5), counts(n-1, 0))
	}
	for i := range n {
		for _, value := range []int{-1, -100000, 100001, 1000000, math.MaxInt, math.MinInt} {
			lists = append(lists, withCount(counts(n, 5), i, value))
		}
	}
	return lists
}

// invalidCopies returns lists of words that are no copy for the font of the example.
func invalidCopies() [][]string {
	lists := [][]string{manyWords(41), manyWords(4000)}
	for _, word := range append([]string{"a", "fan", "fina", "afin", "zzzzzzzzzzzzzzzz", strings.Repeat("f", 15) + "g"}, invalidWords...) {
		lists = append(lists, []string{word}, []string{word, "fin"}, []string{"fin", word}, []string{"fin", word, "fin"}, append(manyWords(39), word))
	}
	return lists
}

func TestBillConstants(t *testing.T) {
	if impl.MaxCast != 100000 {
		t.Error(impl.MaxCast)
	}
}

func TestCountSorts(t *testing.T) {
	ligatures := font("f6", "ff12", "ffi15", "fi10", "i5")
	cases := []struct {
		f     []impl.Sort
		words []string
		want  []int
	}{
		{exampleFont(), copyOf("fin"), []int{0, 1, 0, 1}},
		{exampleFont(), copyOf("nif"), []int{1, 0, 1, 1}},
		{exampleFont(), copyOf("fin n nin"), []int{0, 1, 1, 4}},
		{exampleFont(), copyOf("fin fin fin"), []int{0, 3, 0, 3}},
		{exampleFont(), copyOf("f i"), []int{1, 0, 1, 0}}, // no ligature across words
		{exampleFont(), nil, []int{0, 0, 0, 0}},
		{exampleFont(), []string{}, []int{0, 0, 0, 0}},
		{exampleFont(), manyWords(40), []int{0, 40, 0, 40}},
		{ligatures, copyOf("ffi fffi ffffi"), []int{0, 2, 2, 1, 0}},
		{ligatures, copyOf("f ff fff ffff"), []int{2, 4, 0, 0, 0}},
		{font("m18"), copyOf("m mm"), []int{3}},
		{font("m18"), nil, []int{0}},
		{font("m18"), fullLine("m", 40), []int{640}},
		{pairs(32), copyOf("aabfazba bfbf"), withCount(withCount(withCount(withCount(counts(32, 0), 0, 1), 25, 1), 26, 1), 31, 3)},
	}
	for _, c := range cases {
		if l, ok := impl.CountSorts(c.f, c.words); !slices.Equal(l, c.want) || !ok {
			t.Errorf("%v in %v: %v %v", c.words, c.f, l, ok)
		}
	}
}

// runOutCases tell for the font f, fi, i, n of the example the word and the sort at which a stock runs out; -1 and -1 where it is enough.
var runOutCases = []struct {
	stock      []int
	copy       string
	word, sort int
}{
	{[]int{0, 3, 0, 2}, "fin", -1, -1},
	{[]int{0, 3, 0, 2}, "fin n nin", 2, 3},
	{[]int{0, 1, 0, 1}, "fin", -1, -1}, // enough exactly
	{[]int{0, 0, 0, 1}, "fin", 0, 1},   // one lacks
	{[]int{0, 1, 0, 0}, "fin", 0, 3},
	{[]int{0, 0, 0, 0}, "fin", 0, 1}, // both lack
	{[]int{5, 0, 5, 1}, "fin", 0, 1}, // f and i are there, but fin is set with fi
	{[]int{0, 0, 0, 0}, "f", 0, 0},
	{[]int{0, 9, 9, 9}, "f", 0, 0},
	{[]int{0, 0, 0, 0}, "", -1, -1},
	{[]int{9, 9, 9, 9}, "", -1, -1},
	{[]int{2, 0, 3, 1}, "if nf i i", -1, -1},
	{[]int{2, 0, 2, 1}, "if nf i i", 3, 2},
	{[]int{1, 0, 3, 1}, "if nf i i", 1, 0},
	{[]int{2, 0, 3, 0}, "if nf i i", 1, 3},
	{[]int{0, 0, 0, 0}, "if nf i i", 0, 2},
	// In nin the second n is not there, but the i before it lacks sooner.
	{[]int{0, 0, 0, 1}, "nin", 0, 2},
	{[]int{0, 0, 1, 1}, "nin", 0, 3},
	{[]int{0, 0, 1, 2}, "nin", -1, -1},
	{[]int{1, 0, 0, 1}, "nif f", 0, 2},
	{[]int{1, 0, 1, 1}, "nif f", 1, 0},
	{[]int{100000, 100000, 100000, 100000}, "fin nif", -1, -1},
	{[]int{100000, 100000, 100000, 0}, "fif fin nif", 1, 3},
}

func TestStocksThatRunOut(t *testing.T) {
	for _, c := range runOutCases {
		enough := c.word < 0
		if is, ok := impl.IsEnough(exampleFont(), c.stock, copyOf(c.copy)); is != enough || !ok {
			t.Errorf("%v for %q is enough: %v %v", c.stock, c.copy, is, ok)
		}
		k, i, ok := impl.FirstRunOut(exampleFont(), c.stock, copyOf(c.copy))
		if k != max(c.word, 0) || i != max(c.sort, 0) || ok == enough {
			t.Errorf("%v for %q runs out: %d %d %v", c.stock, c.copy, k, i, ok)
		}
	}
	full := fullLine("m", 40)
	if is, ok := impl.IsEnough(font("m18"), []int{640}, full); !is || !ok {
		t.Error("640 of 640", is, ok)
	}
	if is, ok := impl.IsEnough(font("m18"), []int{639}, full); is || !ok {
		t.Error("639 of 640", is, ok)
	}
	if k, i, ok := impl.FirstRunOut(font("m18"), []int{639}, full); k != 39 || i != 0 || !ok {
		t.Error("639 of 640", k, i, ok)
	}
	if k, i, ok := impl.FirstRunOut(font("m18"), []int{640}, full); k != 0 || i != 0 || ok {
		t.Error("640 of 640", k, i, ok)
	}
	if k, i, ok := impl.FirstRunOut(pairs(32), withCount(counts(32, 9), 31, 0), copyOf("aaab bf")); k != 1 || i != 31 || !ok {
		t.Error("the last one of MaxSorts sorts", k, i, ok)
	}
}

// timesCases tell for the font f, fi, i, n of the example how often copy can be set, and of which sort there is least; -1 where there is none.
var timesCases = []struct {
	stock       []int
	copy        string
	times, sort int
}{
	{[]int{0, 3, 0, 2}, "fin", 2, 3},
	{[]int{0, 2, 0, 3}, "fin", 2, 1},
	{[]int{0, 2, 0, 2}, "fin", 2, 1}, // equally scarce
	{[]int{0, 0, 0, 2}, "fin", 0, 1},
	{[]int{0, 2, 0, 0}, "fin", 0, 3},
	{[]int{0, 0, 0, 0}, "fin", 0, 1},
	{[]int{9, 5, 9, 5}, "n", 5, 3},
	{[]int{0, 0, 0, 5}, "n", 5, 3}, // the others are not needed
	{[]int{100000, 100000, 100000, 100000}, "n", 100000, 3},
	{[]int{0, 100000, 0, 100000}, "fin", 100000, 1},
	{[]int{0, 100000, 0, 99999}, "fin", 99999, 3},
	{[]int{100000, 100000, 100000, 100000}, "nn", 50000, 3},
	{[]int{100000, 100000, 100000, 100000}, "nn f", 50000, 3},
	{[]int{49999, 100000, 100000, 100000}, "nn f", 49999, 0},
	// 7/3, 5/2 and 9/4 are all 2 times, but 9/4 is least.
	{[]int{7, 0, 5, 9}, "fffnn inn i", 2, 3},
	{[]int{7, 0, 4, 9}, "fffnn inn i", 2, 2},
	{[]int{7, 0, 5, 10}, "fffnn inn i", 2, 0},
	{[]int{3, 0, 2, 4}, "fffnn inn i", 1, 0}, // 3/3, 2/2 and 4/4
	{[]int{2, 0, 1, 3}, "fffnn inn i", 0, 2}, // 2/3, 1/2 and 3/4
	{[]int{3, 0, 1, 2}, "fffnn inn i", 0, 2}, // 3/3, 1/2 and 2/4
	// The ratios of large stocks differ by little.
	{[]int{99999, 0, 66666, 100000}, "fff i i", 33333, 0},
	{[]int{99999, 0, 66665, 100000}, "fff i i", 33332, 2},
	{[]int{100000, 0, 66667, 100000}, "fff i i", 33333, 0},
	{[]int{99998, 0, 66665, 100000}, "fff i i", 33332, 2},
	{[]int{9, 9, 9, 9}, "", 0, -1},
	{[]int{0, 0, 0, 0}, "", 0, -1},
}

func TestTimesToSetAndScarcestSort(t *testing.T) {
	for _, c := range timesCases {
		is := c.sort >= 0
		if n, ok := impl.TimesToSet(exampleFont(), c.stock, copyOf(c.copy)); n != c.times || ok != is {
			t.Errorf("%v for %q: %d times %v", c.stock, c.copy, n, ok)
		}
		if i, ok := impl.ScarcestSort(exampleFont(), c.stock, copyOf(c.copy)); i != max(c.sort, 0) || ok != is {
			t.Errorf("%v for %q: sort %d %v", c.stock, c.copy, i, ok)
		}
	}
	full := fullLine("m", 40)
	for _, c := range []struct{ stock, times int }{{100000, 156}, {640, 1}, {639, 0}, {1279, 1}, {1280, 2}} {
		if n, ok := impl.TimesToSet(font("m18"), []int{c.stock}, full); n != c.times || !ok {
			t.Error("640 types out of", c.stock, n, ok)
		}
	}
	if i, ok := impl.ScarcestSort(pairs(32), withCount(counts(32, 9), 31, 8), copyOf("aaab bf")); i != 31 || !ok {
		t.Error("the last one of MaxSorts sorts", i, ok)
	}
}

func TestLeastRecast(t *testing.T) {
	cases := []struct {
		stock []int
		copy  string
		times int
		want  []int
	}{
		{[]int{0, 3, 0, 2}, "fin", 5, []int{0, 2, 0, 3}},
		{[]int{0, 3, 0, 2}, "fin", 0, []int{0, 0, 0, 0}},
		{[]int{0, 3, 0, 2}, "fin", 1, []int{0, 0, 0, 0}},
		{[]int{0, 3, 0, 2}, "fin", 2, []int{0, 0, 0, 0}},
		{[]int{0, 3, 0, 2}, "fin", 3, []int{0, 0, 0, 1}},
		{[]int{0, 3, 0, 2}, "fin", 1000, []int{0, 997, 0, 998}},
		{[]int{0, 0, 0, 0}, "fin", 1000, []int{0, 1000, 0, 1000}},
		{[]int{0, 0, 0, 0}, "fin", 0, []int{0, 0, 0, 0}},
		{[]int{100000, 100000, 100000, 100000}, "fin nif", 1000, []int{0, 0, 0, 0}},
		{[]int{7, 0, 5, 9}, "fffnn inn i", 3, []int{2, 0, 1, 3}},
		{[]int{0, 0, 0, 0}, "", 1000, []int{0, 0, 0, 0}},
		{[]int{5, 5, 5, 5}, "", 0, []int{0, 0, 0, 0}},
	}
	for _, c := range cases {
		if l, ok := impl.LeastRecast(exampleFont(), c.stock, copyOf(c.copy), c.times); !slices.Equal(l, c.want) || !ok {
			t.Errorf("%v for %q %d times: %v %v", c.stock, c.copy, c.times, l, ok)
		}
	}
	for _, times := range []int{-1, -1000, 1001, 2000, math.MaxInt, math.MinInt} {
		for _, words := range [][]string{nil, copyOf("fin")} {
			if l, ok := impl.LeastRecast(exampleFont(), counts(4, 5), words, times); len(l) != 0 || ok {
				t.Errorf("%v %d times: %v %v", words, times, l, ok)
			}
		}
	}
}

func TestLeastRecastOfMaxCast(t *testing.T) {
	full := fullLine("m", 40) // 640 types
	cases := []struct {
		stock, times, want int
		ok                 bool
	}{
		{0, 156, 99840, true},
		{0, 157, 0, false},
		{480, 157, 100000, true},
		{479, 157, 0, false},
		{481, 157, 99999, true},
		{100000, 312, 99680, true},
		{100000, 313, 0, false},
		{100000, 1000, 0, false},
		{0, 1000, 0, false},
	}
	for _, c := range cases {
		l, ok := impl.LeastRecast(font("m18"), []int{c.stock}, full, c.times)
		if ok != c.ok || ok && !slices.Equal(l, []int{c.want}) || !ok && len(l) != 0 {
			t.Errorf("%d types for 640, %d times: %v %v", c.stock, c.times, l, ok)
		}
	}
	// One sort would be too many, whichever it is.
	words := append(fullLine("n", 6), "nnnn", "f", "i", "fi")
	if l, ok := impl.LeastRecast(exampleFont(), counts(4, 0), words, 1000); !slices.Equal(l, []int{1000, 1000, 1000, 100000}) || !ok {
		t.Error("MaxCast exactly", l, ok)
	}
	if l, ok := impl.LeastRecast(exampleFont(), counts(4, 0), append(words, "n"), 1000); len(l) != 0 || ok {
		t.Error("more for the last sort", l, ok)
	}
	words = append(fullLine("f", 6), "ffff", "n", "f")
	if l, ok := impl.LeastRecast(exampleFont(), []int{999, 0, 0, 0}, words, 1000); len(l) != 0 || ok {
		t.Error("one more for the first sort", l, ok)
	}
	if l, ok := impl.LeastRecast(exampleFont(), []int{1000, 0, 0, 0}, words, 1000); !slices.Equal(l, []int{100000, 0, 0, 1000}) || !ok {
		t.Error("MaxCast exactly for the first sort", l, ok)
	}
}

func TestDivideByWeights(t *testing.T) {
	cases := []struct {
		weights []int
		total   int
		want    []int
	}{
		{[]int{1, 1, 1}, 10, []int{4, 3, 3}},
		{[]int{1, 1, 1}, 11, []int{4, 4, 3}},
		{[]int{1, 1, 1}, 9, []int{3, 3, 3}},
		{[]int{1, 1, 1}, 1, []int{1, 0, 0}},
		{[]int{1, 1, 1}, 2, []int{1, 1, 0}},
		{[]int{1, 1, 1}, 0, []int{0, 0, 0}},
		{[]int{5}, 0, []int{0}},
		{[]int{5}, 100000, []int{100000}},
		{[]int{1}, 1, []int{1}},
		{[]int{1000000}, 100000, []int{100000}},
		{[]int{1, 2}, 1, []int{0, 1}},
		{[]int{2, 1}, 1, []int{1, 0}},
		{[]int{1, 2, 3}, 10, []int{2, 3, 5}},       // 1 4/6, 3 2/6, 5
		{[]int{3, 2, 1}, 10, []int{5, 3, 2}},       // 5, 3 2/6, 1 4/6
		{[]int{1, 3, 3}, 5, []int{1, 2, 2}},        // 5/7, 2 1/7, 2 1/7
		{[]int{3, 3, 1}, 4, []int{2, 2, 0}},        // 1 5/7, 1 5/7, 4/7
		{[]int{3, 3, 1}, 6, []int{3, 2, 1}},        // 2 4/7, 2 4/7, 6/7: the last one, then the first
		{[]int{1, 2, 2, 2}, 10, []int{1, 3, 3, 3}}, // 1 3/7, three times 2 6/7
		{[]int{2, 2, 1, 1}, 5, []int{2, 1, 1, 1}},  // 1 4/6, 1 4/6, 5/6, 5/6
		// A weight of 0 gets nothing.
		{[]int{0, 1}, 7, []int{0, 7}},
		{[]int{1, 0, 1}, 3, []int{2, 0, 1}},
		{[]int{0, 0, 1, 1, 1, 0}, 5, []int{0, 0, 2, 2, 1, 0}},
		{[]int{0, 0, 1}, 100000, []int{0, 0, 100000}},
		{[]int{1, 1000000}, 100000, []int{0, 100000}},
		{[]int{1000000, 1, 1000000}, 100000, []int{50000, 0, 50000}},
		{[]int{1000000, 1000000, 1000000}, 100000, []int{33334, 33333, 33333}},
		{[]int{999999, 1000000}, 100000, []int{50000, 50000}},
		{counts(32, 1), 31, append(counts(31, 1), 0)},
		{counts(32, 1), 33, append([]int{2}, counts(31, 1)...)},
		{counts(32, 1000000), 100000, counts(32, 3125)},
		{append(counts(31, 0), 1), 100000, append(counts(31, 0), 100000)},
	}
	for _, c := range cases {
		if l, ok := impl.DivideByWeights(c.weights, c.total); !slices.Equal(l, c.want) || !ok {
			t.Errorf("%d by %v: %v %v", c.total, c.weights, l, ok)
		}
	}
}

func TestDivideByInvalidWeights(t *testing.T) {
	refuse := func(weights []int, total int) {
		t.Helper()
		if l, ok := impl.DivideByWeights(weights, total); len(l) != 0 || ok {
			t.Errorf("%d by %.200v: %v %v", total, weights, l, ok)
		}
	}
	for _, total := range []int{0, 10, 100000} {
		for _, weights := range [][]int{nil, {}, {0}, {0, 0, 0}, counts(32, 0), counts(33, 1), append(counts(32, 0), 1), counts(33, 0), counts(100000, 1)} {
			refuse(weights, total)
		}
		for _, weight := range []int{-1, -1000000, 1000001, math.MaxInt, math.MinInt} {
			refuse([]int{weight}, total)
			refuse([]int{weight, 5}, total)
			refuse([]int{5, weight}, total)
			refuse(append(counts(31, 7), weight), total)
			refuse([]int{weight, weight}, total)
		}
		// A negative weight that would leave a good sum, and sums that would wrap around.
		refuse([]int{-1, 11}, total)
		refuse([]int{math.MaxInt, math.MaxInt, 3}, total)
		refuse([]int{math.MinInt, math.MinInt, 3}, total)
	}
	for _, total := range []int{-1, -10, 100001, 1000000, math.MaxInt, math.MinInt} {
		for _, weights := range [][]int{{1}, {1, 1, 1}, counts(32, 1000000), {0, 1}} {
			refuse(weights, total)
		}
	}
}

func TestWeightOfTypes(t *testing.T) {
	cases := []struct {
		f      []impl.Sort
		counts []int
		body   int
		want   int
	}{
		{exampleFont(), []int{0, 3, 0, 2}, 10, 5},
		{exampleFont(), []int{0, 3, 0, 2}, 1, 1}, // 50 hundredths
		{exampleFont(), []int{0, 3, 0, 2}, 2, 1},
		{exampleFont(), []int{0, 3, 0, 2}, 3, 2},
		{exampleFont(), []int{0, 3, 0, 2}, 72, 36},
		{exampleFont(), []int{1, 1, 1, 1}, 10, 4},  // 310 hundredths
		{exampleFont(), []int{1, 2, 3, 4}, 12, 10}, // 972 hundredths
		{exampleFont(), []int{0, 0, 0, 0}, 1, 0},
		{exampleFont(), []int{0, 0, 0, 0}, 72, 0},
		{font("m1"), []int{1}, 1, 1},
		{font("m1"), []int{99}, 1, 1},
		{font("m1"), []int{100}, 1, 1},
		{font("m1"), []int{101}, 1, 2},
		{font("m50"), []int{100000}, 1, 50000},
		{font("m54"), []int{100000}, 72, 3888000},
		{font("a18", "b1"), []int{100000, 100000}, 72, 1368000},
		{pairs(32), counts(32, 100000), 72, 38016000},
		{pairs(32), append(counts(31, 0), 1), 72, 24}, // 2304 hundredths
	}
	for _, c := range cases {
		if n, ok := impl.WeightOfTypes(c.f, c.counts, c.body); n != c.want || !ok {
			t.Errorf("%v of %v, body %d: %d %v", c.counts, c.f, c.body, n, ok)
		}
	}
	for _, body := range []int{0, -1, -10, 73, 74, 1000, math.MaxInt, math.MinInt} {
		for _, l := range [][]int{{0, 3, 0, 2}, {0, 0, 0, 0}} {
			if n, ok := impl.WeightOfTypes(exampleFont(), l, body); n != 0 || ok {
				t.Errorf("%v, body %d: %d %v", l, body, n, ok)
			}
		}
	}
}

func TestBillText(t *testing.T) {
	cases := []struct {
		f      []impl.Sort
		counts []int
		want   string
	}{
		{exampleFont(), []int{0, 3, 0, 2}, "fi=3 n=2"},
		{exampleFont(), []int{1, 2, 3, 4}, "f=1 fi=2 i=3 n=4"},
		{exampleFont(), []int{0, 0, 0, 0}, ""},
		{exampleFont(), []int{7, 0, 0, 0}, "f=7"},
		{exampleFont(), []int{0, 0, 0, 7}, "n=7"},
		{exampleFont(), []int{100000, 0, 0, 10}, "f=100000 n=10"},
		{font("abc54"), []int{1}, "abc=1"},
		{font("abc54"), []int{0}, ""},
		{pairs(32), append([]int{1}, append(counts(30, 0), 2)...), "aa=1 bf=2"},
	}
	for _, c := range cases {
		if s, ok := impl.BillText(c.f, c.counts); s != c.want || !ok {
			t.Errorf("%v of %v: %q %v", c.counts, c.f, s, ok)
		}
	}
	s, ok := impl.BillText(pairs(32), counts(32, 100000))
	entries := strings.Split(s, " ")
	if len(entries) != 32 || !ok {
		t.Fatal("MaxSorts sorts", s, ok)
	}
	for i, entry := range entries {
		if entry != pairs(32)[i].Code+"=100000" {
			t.Error("MaxSorts sorts", i, entry)
		}
	}
}

// settingOf returns the sorts with which a word is set, found without the help of the package; it tells also whether it can be set.
func settingOf(f []impl.Sort, word string) ([]int, bool) {
	var sorts []int
	for word != "" {
		longest := -1
		for i, s := range f {
			if strings.HasPrefix(word, s.Code) && (longest < 0 || len(s.Code) > len(f[longest].Code)) {
				longest = i
			}
		}
		if longest < 0 {
			return nil, false
		}
		sorts = append(sorts, longest)
		word = word[len(f[longest].Code):]
	}
	return sorts, true
}

// needOf counts the sorts of copy without the help of the package; it tells also whether all words can be set.
func needOf(f []impl.Sort, words []string) ([]int, bool) {
	need := counts(len(f), 0)
	for _, word := range words {
		sorts, ok := settingOf(f, word)
		if !ok {
			return nil, false
		}
		for _, i := range sorts {
			need[i]++
		}
	}
	return need, true
}

// isCovered tells whether no need is greater than the stock.
func isCovered(need, stock []int) bool {
	for i, n := range need {
		if n > stock[i] {
			return false
		}
	}
	return true
}

func randomCounts(r *rand.Rand, n, most int) []int {
	l := make([]int, n)
	for i := range l {
		l[i] = r.Intn(most + 1)
	}
	return l
}

// checkRunOut checks that a stock is enough just if nothing runs out, and that before the told type nothing did.
func checkRunOut(t *testing.T, f []impl.Sort, stock []int, words []string) bool {
	t.Helper()
	need, _ := needOf(f, words)
	enough, ok := impl.IsEnough(f, stock, words)
	if enough != isCovered(need, stock) || !ok {
		t.Fatalf("%v, %v, %v is enough: %v %v", f, stock, words, enough, ok)
	}
	k, i, ok := impl.FirstRunOut(f, stock, words)
	if ok == enough || enough && (k != 0 || i != 0) {
		t.Fatalf("%v, %v, %v: %d %d %v, enough %v", f, stock, words, k, i, ok, enough)
	}
	if enough {
		return true
	}
	need, _ = needOf(f, words[:k])
	if !isCovered(need, stock) {
		t.Fatalf("%v, %v, %v: %d %d, but one runs out before", f, stock, words, k, i)
	}
	sorts, _ := settingOf(f, words[k])
	at := slices.IndexFunc(sorts, func(x int) bool {
		need[x]++
		return need[x] > stock[x]
	})
	if at < 0 || sorts[at] != i {
		t.Fatalf("%v, %v, %v: %d %d, but in this word %v runs out at %d", f, stock, words, k, i, sorts, at)
	}
	return false
}

// checkTimes checks that copy can be set as often as is told, and not once more, and that the scarcest sort tells it.
func checkTimes(t *testing.T, f []impl.Sort, stock []int, words []string) int {
	t.Helper()
	need, _ := needOf(f, words)
	scarcest := -1
	for i, n := range need {
		if n > 0 && (scarcest < 0 || stock[i]*need[scarcest] < stock[scarcest]*n) {
			scarcest = i
		}
	}
	i, ok := impl.ScarcestSort(f, stock, words)
	if i != max(scarcest, 0) || ok != (len(words) > 0) {
		t.Fatalf("%v, %v, %v: sort %d %v, want %d", f, stock, words, i, ok, scarcest)
	}
	times, ok := impl.TimesToSet(f, stock, words)
	if ok != (len(words) > 0) || !ok && times != 0 {
		t.Fatalf("%v, %v, %v: %d times %v", f, stock, words, times, ok)
	}
	if !ok {
		return 0
	}
	for more := range 2 {
		all := slices.Clone(need)
		for i := range all {
			all[i] *= times + more
		}
		if isCovered(all, stock) != (more == 0) {
			t.Fatalf("%v, %v, %v: %d times, but %v", f, stock, words, times, all)
		}
	}
	return times
}

// checkRecast checks that what is cast is enough for copy so many times, and no type too many.
func checkRecast(t *testing.T, f []impl.Sort, stock []int, words []string, times int) {
	t.Helper()
	need, _ := needOf(f, words)
	l, ok := impl.LeastRecast(f, stock, words, times)
	if len(l) != len(f) || !ok {
		t.Fatalf("%v, %v, %v, %d times: %v %v", f, stock, words, times, l, ok)
	}
	for i, n := range l {
		if n < 0 || stock[i]+n < need[i]*times || n > 0 && stock[i]+n > need[i]*times {
			t.Fatalf("%v, %v, %v, %d times: %v", f, stock, words, times, l)
		}
	}
}

func TestRandomBills(t *testing.T) {
	r := rand.New(rand.NewSource(10))
	enough, short, none, often := 0, 0, 0, 0
	for range 20000 {
		f := randomFont(r)
		words := make([]string, r.Intn(6))
		for k := range words {
			words[k] = randomLetters(r, 5)
		}
		stock := randomCounts(r, len(f), r.Intn(12))
		need, isCopy := needOf(f, words)
		l, ok := impl.CountSorts(f, words)
		if !slices.Equal(l, need) || ok != isCopy {
			t.Fatalf("%v in %v: %v %v, want %v", words, f, l, ok, need)
		}
		if !isCopy {
			refuseCopy(t, f, stock, words)
			none++
			continue
		}
		if checkRunOut(t, f, stock, words) {
			enough++
		} else {
			short++
		}
		if checkTimes(t, f, stock, words) > 1 {
			often++
		}
		checkRecast(t, f, stock, words, r.Intn(1001))
		checkBillText(t, f, need)
	}
	if enough < 500 || short < 500 || none < 500 || often < 100 {
		t.Error("too few bills:", enough, "enough,", short, "short,", none, "without copy,", often, "more than once")
	}
}

// checkBillText checks that a bill tells all counts.
func checkBillText(t *testing.T, f []impl.Sort, l []int) {
	t.Helper()
	s, ok := impl.BillText(f, l)
	want := ""
	for i, n := range l {
		if n != 0 {
			want += " " + f[i].Code + "=" + strconv.Itoa(n)
		}
	}
	if s != strings.TrimPrefix(want, " ") || !ok {
		t.Fatalf("%v of %v: %q %v", l, f, s, ok)
	}
}

func TestRandomWeightsOfTypes(t *testing.T) {
	r := rand.New(rand.NewSource(11))
	for range 3000 {
		f := randomFont(r)
		l := randomCounts(r, len(f), []int{1, 50, 100000}[r.Intn(3)])
		body := 1 + r.Intn(72)
		n, ok := impl.WeightOfTypes(f, l, body)
		all := 0
		for i, count := range l {
			all += count * f[i].Set * body
		}
		if n*100 < all || n*100 >= all+100 || !ok {
			t.Fatalf("%v of %v, body %d: %d %v, exactly %d hundredths", l, f, body, n, ok, all)
		}
	}
}

// TestRandomShares checks that shares make up the total, that each is its part rounded down or up, and that none is rounded down beside a lesser remainder that is rounded up.
func TestRandomShares(t *testing.T) {
	r := rand.New(rand.NewSource(12))
	for range 20000 {
		weights := randomCounts(r, 1+r.Intn(32), []int{1, 3, 20, 1000000}[r.Intn(4)])
		total := r.Intn([]int{5, 100, 100001}[r.Intn(3)])
		sum := 0
		for _, weight := range weights {
			sum += weight
		}
		shares, ok := impl.DivideByWeights(weights, total)
		if sum == 0 {
			if len(shares) != 0 || ok {
				t.Fatalf("%d by %v: %v %v", total, weights, shares, ok)
			}
			continue
		}
		if len(shares) != len(weights) || !ok {
			t.Fatalf("%d by %v: %v %v", total, weights, shares, ok)
		}
		given := 0
		for i, share := range shares {
			given += share
			more := share - total*weights[i]/sum
			if more < 0 || more > 1 {
				t.Fatalf("%d by %v: %v", total, weights, shares)
			}
			for k := range i {
				moreBefore := shares[k] - total*weights[k]/sum
				remainder, before := total*weights[i]%sum, total*weights[k]%sum
				if more > moreBefore && remainder <= before || more < moreBefore && remainder > before {
					t.Fatalf("%d by %v: %v, but %d and %d have other remainders", total, weights, shares, k, i)
				}
			}
		}
		if given != total {
			t.Fatalf("%d by %v: %v are %d", total, weights, shares, given)
		}
	}
}

// refuseStocked checks that no function on copy with a stock takes these arguments.
func refuseStocked(t *testing.T, f []impl.Sort, stock []int, words []string) {
	t.Helper()
	if is, ok := impl.IsEnough(f, stock, words); is || ok {
		t.Errorf("%.100v, %.100v, %.100q is enough: %v %v", f, stock, words, is, ok)
	}
	if k, i, ok := impl.FirstRunOut(f, stock, words); k != 0 || i != 0 || ok {
		t.Errorf("%.100v, %.100v, %.100q runs out: %d %d %v", f, stock, words, k, i, ok)
	}
	if n, ok := impl.TimesToSet(f, stock, words); n != 0 || ok {
		t.Errorf("%.100v, %.100v, %.100q: %d times %v", f, stock, words, n, ok)
	}
	for _, times := range []int{0, 1, 1000} {
		if l, ok := impl.LeastRecast(f, stock, words, times); len(l) != 0 || ok {
			t.Errorf("%.100v, %.100v, %.100q %d times: recast %v %v", f, stock, words, times, l, ok)
		}
	}
	if i, ok := impl.ScarcestSort(f, stock, words); i != 0 || ok {
		t.Errorf("%.100v, %.100v, %.100q: sort %d %v", f, stock, words, i, ok)
	}
}

// refuseCopy checks that no function on copy takes these words with this font.
func refuseCopy(t *testing.T, f []impl.Sort, stock []int, words []string) {
	t.Helper()
	if l, ok := impl.CountSorts(f, words); len(l) != 0 || ok {
		t.Errorf("%.100v, %.100q: %v %v", f, words, l, ok)
	}
	refuseStocked(t, f, stock, words)
}

// refuseCounts checks that no function on counts alone takes these.
func refuseCounts(t *testing.T, f []impl.Sort, l []int) {
	t.Helper()
	for _, body := range []int{1, 10, 72} {
		if n, ok := impl.WeightOfTypes(f, l, body); n != 0 || ok {
			t.Errorf("%.100v, %.100v, body %d: %d %v", f, l, body, n, ok)
		}
	}
	if s, ok := impl.BillText(f, l); s != "" || ok {
		t.Errorf("%.100v, %.100v: %q %v", f, l, s, ok)
	}
}

func TestBillsOfInvalidFonts(t *testing.T) {
	for _, f := range invalidFonts() {
		for _, n := range []int{0, 5, 100000} {
			for _, words := range [][]string{nil, {}, {"fin"}, {"f"}, {"a"}, {"aa"}, {"fin", "n", "nin"}} {
				refuseCopy(t, f, counts(len(f), n), words)
			}
			refuseCounts(t, f, counts(len(f), n))
		}
	}
}

func TestBillsOfInvalidStocks(t *testing.T) {
	for _, f := range [][]impl.Sort{exampleFont(), font("n10"), append(pairs(31), font("n10")...)} {
		for _, stock := range invalidStocks(len(f)) {
			for _, words := range [][]string{nil, {"n"}, {"nn", "n"}, {"n", "a"}} {
				refuseStocked(t, f, stock, words)
			}
			refuseCounts(t, f, stock)
		}
	}
	// An invalid number counts, though its sort is not needed, or one before it has run out.
	refuseStocked(t, exampleFont(), []int{-1, 3, 0, 2}, copyOf("fin"))
	refuseStocked(t, exampleFont(), []int{0, 0, 100001, 0}, copyOf("fin"))
}

func TestBillsOfInvalidCopies(t *testing.T) {
	for _, words := range invalidCopies() {
		for _, stock := range [][]int{{0, 3, 0, 2}, counts(4, 0), counts(4, 100000), nil} {
			refuseCopy(t, exampleFont(), stock, words)
		}
	}
	// fin is a word, but not one that can be set.
	refuseCopy(t, font("f6", "fi10", "in12"), counts(3, 5), copyOf("fin"))
	refuseCopy(t, font("f6", "fi10", "in12"), counts(3, 0), copyOf("f fi fin"))
	// 40 words are copy, 41 are none.
	if n, ok := impl.TimesToSet(exampleFont(), counts(4, 80), manyWords(40)); n != 2 || !ok {
		t.Error("40 words", n, ok)
	}
}

// billResults are the results of all functions that take a font, a stock and words.
type billResults struct {
	need, recast                 []int
	enough                       bool
	word, runOut, times, sort    int
	weight                       int
	text                         string
	didCount, didAsk, didRunOut  bool
	didTimes, didRecast, didSort bool
	didWeigh, didTell            bool
}

func billOf(f []impl.Sort, stock []int, words []string) (b billResults) {
	b.need, b.didCount = impl.CountSorts(f, words)
	b.enough, b.didAsk = impl.IsEnough(f, stock, words)
	b.word, b.runOut, b.didRunOut = impl.FirstRunOut(f, stock, words)
	b.times, b.didTimes = impl.TimesToSet(f, stock, words)
	b.recast, b.didRecast = impl.LeastRecast(f, stock, words, 5)
	b.sort, b.didSort = impl.ScarcestSort(f, stock, words)
	b.weight, b.didWeigh = impl.WeightOfTypes(f, stock, 10)
	b.text, b.didTell = impl.BillText(f, stock)
	return b
}

// sameBills compares results; their lists are overwritten.
func sameBills(a, b billResults) bool {
	same := slices.Equal(a.need, b.need) && slices.Equal(a.recast, b.recast)
	for _, l := range [][]int{a.need, a.recast, b.need, b.recast} {
		overwrite(l, true)
	}
	a.need, a.recast, b.need, b.recast = nil, nil, nil, nil
	return same && slices.Equal(billFields(a), billFields(b))
}

func billFields(b billResults) []any {
	return []any{b.enough, b.word, b.runOut, b.times, b.sort, b.weight, b.text, b.didCount, b.didAsk, b.didRunOut, b.didTimes, b.didRecast, b.didSort, b.didWeigh, b.didTell}
}

// TestBillArgumentsStay calls the functions with lists that have spare capacity, of which they must neither take nor change anything.
func TestBillArgumentsStay(t *testing.T) {
	fonts := append(invalidFonts(), exampleFont(), font("n10"), pairs(31), pairs(32))
	for _, given := range fonts {
		stocks := [][]int{counts(len(given), 1), counts(len(given), 0), counts(max(len(given)-1, 0), 1), counts(len(given)+1, 1), counts(len(given), -1)}
		for _, numbers := range stocks {
			for _, texts := range [][]string{nil, {"fin", "n", "nin"}, {"n"}, {"aaab", "bf"}, {"fan"}, manyWords(40), manyWords(41)} {
				f, fontStays := guarded(t, "font", given, impl.Sort{Code: "zz", Set: 1})
				stock, stockStays := guarded(t, "stock", numbers, 1)
				words, wordsStay := guarded(t, "words", texts, "n")
				plain := billOf(slices.Clip(slices.Clone(given)), slices.Clip(slices.Clone(numbers)), slices.Clip(slices.Clone(texts)))
				b := billOf(f, stock, words)
				if shareMemory(b.need, stock) || shareMemory(b.recast, stock) || shareMemory(b.need, b.recast) {
					t.Errorf("%.100v, %.100v, %.100q: results share memory", given, numbers, texts)
				}
				if !sameBills(b, plain) {
					t.Errorf("%.100v, %.100v, %.100q: %v, without spare capacity %v", given, numbers, texts, b, plain)
				}
				fontStays()
				stockStays()
				wordsStay()
			}
		}
	}
}

// TestWeightsStay does the same for DivideByWeights.
func TestWeightsStay(t *testing.T) {
	for _, given := range [][]int{nil, {1, 1, 1}, {3, 3, 1}, {0, 0}, {-1}, {1000001, 1}, counts(31, 5), counts(32, 5), counts(33, 5)} {
		for _, total := range []int{-1, 0, 1, 10, 100000, 100001} {
			weights, stay := guarded(t, "weights", given, 1)
			want, good := impl.DivideByWeights(slices.Clip(slices.Clone(given)), total)
			l, ok := impl.DivideByWeights(weights, total)
			if !slices.Equal(l, want) || ok != good {
				t.Errorf("%d by %v: %v %v, without spare capacity %v %v", total, given, l, ok, want, good)
			}
			if shareMemory(l, weights) || shareMemory(l, want) {
				t.Errorf("%d by %v: the shares are not new", total, given)
			}
			overwrite(l, ok)
			stay()
		}
	}
}

// TestBillResultsAreNew checks that the same call gives the same result when an earlier one has been overwritten.
func TestBillResultsAreNew(t *testing.T) {
	f, stock, words := exampleFont(), []int{0, 3, 0, 2}, copyOf("fin")
	for range 2 {
		need, _ := impl.CountSorts(f, words)
		recast, _ := impl.LeastRecast(f, stock, words, 5)
		shares, _ := impl.DivideByWeights([]int{1, 1, 1}, 10)
		if !slices.Equal(need, []int{0, 1, 0, 1}) || !slices.Equal(recast, []int{0, 2, 0, 3}) || !slices.Equal(shares, []int{4, 3, 3}) {
			t.Error(need, recast, shares)
		}
		overwrite(need, true)
		overwrite(recast, true)
		overwrite(shares, true)
	}
}
