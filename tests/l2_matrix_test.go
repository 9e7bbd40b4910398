package tests

import (
	"math"
	"math/rand"
	"slices"
	"strconv"
	"strings"
	"testing"

	"loop.example/g01054/impl"
)

// strikeOf makes a strike, valid or not, of its parts in the order of their numbers.
func strikeOf(depth, left, face, right, foot int) impl.Strike {
	return impl.Strike{Depth: depth, Left: left, Face: face, Right: right, Foot: foot}
}

func partsOf(s impl.Strike) []int {
	return []int{s.Depth, s.Left, s.Face, s.Right, s.Foot}
}

// withPart returns a strike in which the part with a number is another one.
func withPart(s impl.Strike, part, value int) impl.Strike {
	p := partsOf(s)
	p[part] = value
	return strikeOf(p[0], p[1], p[2], p[3], p[4])
}

func exampleStrike() impl.Strike   { return strikeOf(125, 40, 210, 35, 60) }
func exampleStandard() impl.Strike { return strikeOf(120, 30, 210, 30, 60) }
func leastStrike() impl.Strike     { return strikeOf(1, 1, 1, 1, 1) }
func greatestStrike() impl.Strike  { return strikeOf(999, 999, 999, 999, 999) }

func validStrikes() []impl.Strike {
	l := []impl.Strike{exampleStrike(), exampleStandard(), leastStrike(), greatestStrike()}
	for part := range 5 {
		l = append(l, withPart(leastStrike(), part, 999), withPart(greatestStrike(), part, 1), withPart(exampleStrike(), part, 1), withPart(exampleStrike(), part, 999))
	}
	return l
}

func invalidStrikes() []impl.Strike {
	l := []impl.Strike{{}, strikeOf(-1, -1, -1, -1, -1), strikeOf(1000, 1000, 1000, 1000, 1000)}
	for part := range 5 {
		for _, value := range []int{0, -1, -40, 1000, 1001, math.MaxInt, math.MinInt, math.MinInt + 1} {
			l = append(l, withPart(exampleStrike(), part, value))
		}
	}
	return l
}

func manyStrikes(n int) []impl.Strike {
	return slices.Repeat([]impl.Strike{exampleStrike()}, n)
}

func invalidStrikeLists() [][]impl.Strike {
	lists := [][]impl.Strike{manyStrikes(31), manyStrikes(3000), make([]impl.Strike, 31)}
	for _, s := range invalidStrikes() {
		lists = append(lists, []impl.Strike{s}, []impl.Strike{s, exampleStrike()}, []impl.Strike{exampleStrike(), s}, append(manyStrikes(29), s))
	}
	return lists
}

// invalidTolerances and invalidCasts are numbers just outside and far outside their bounds.
var (
	invalidTolerances = []int{-1, -999, 1000, 1001, math.MaxInt, math.MinInt}
	invalidCasts      = []int{-1, -1000, 1000001, 1001000, math.MaxInt, math.MinInt}
)

func TestMatrixConstants(t *testing.T) {
	if impl.MaxPart != 999 || impl.MaxStrikes != 30 {
		t.Error(impl.MaxPart, impl.MaxStrikes)
	}
}

func TestIsStrike(t *testing.T) {
	for _, s := range validStrikes() {
		if !impl.IsStrike(s) {
			t.Errorf("%v is a strike", s)
		}
	}
	for _, s := range invalidStrikes() {
		if impl.IsStrike(s) {
			t.Errorf("%v is no strike", s)
		}
	}
}

func TestWidthOfStrike(t *testing.T) {
	cases := []struct {
		s     impl.Strike
		width int
	}{
		{exampleStrike(), 285},
		{leastStrike(), 3},
		{greatestStrike(), 2997}, // more than MaxPart
		{strikeOf(999, 1, 2, 3, 999), 6},
		{strikeOf(1, 100, 20, 3, 1), 123},
	}
	for _, c := range cases {
		if n, ok := impl.WidthOfStrike(c.s); n != c.width || !ok {
			t.Errorf("%v: %d %v", c.s, n, ok)
		}
	}
}

// justifyCases tell the filings from strikes to standards; none where they cannot be justified.
var justifyCases = []struct {
	s, standard string
	filings     []int
}{
	{"125/40/210/35/60", "120/30/210/30/60", []int{5, 10, 0, 5, 0}},
	{"125/40/210/35/60", "125/40/210/35/60", []int{0, 0, 0, 0, 0}},
	{"999/999/999/999/999", "999/999/999/999/999", []int{0, 0, 0, 0, 0}},
	{"999/999/999/999/999", "1/1/999/1/1", []int{998, 998, 0, 998, 998}},
	{"999/999/1/999/999", "1/1/1/1/1", []int{998, 998, 0, 998, 998}},
	{"1/1/1/1/1", "1/1/1/1/1", []int{0, 0, 0, 0, 0}},
	{"2/1/1/1/1", "1/1/1/1/1", []int{1, 0, 0, 0, 0}},
	{"1/2/1/1/1", "1/1/1/1/1", []int{0, 1, 0, 0, 0}},
	{"1/1/1/2/1", "1/1/1/1/1", []int{0, 0, 0, 1, 0}},
	{"1/1/1/1/2", "1/1/1/1/1", []int{0, 0, 0, 0, 1}},
	{"9/8/7/6/5", "5/5/7/5/5", []int{4, 3, 0, 1, 0}},
	// A Face is never filed.
	{"125/40/210/35/60", "120/30/209/30/60", nil},
	{"125/40/210/35/60", "120/30/211/30/60", nil},
	{"125/40/210/35/60", "125/40/1/35/60", nil},
	{"125/40/210/35/60", "125/40/999/35/60", nil},
	// One part is less than that of the standard.
	{"125/40/210/35/60", "126/30/210/30/60", nil},
	{"125/40/210/35/60", "120/41/210/30/60", nil},
	{"125/40/210/35/60", "120/30/210/36/60", nil},
	{"125/40/210/35/60", "120/30/210/30/61", nil},
	{"1/1/5/1/1", "999/999/5/999/999", nil},
	{"1/1/1/1/1", "999/999/999/999/999", nil},
	// The width is the same, the sides are not.
	{"125/40/210/35/60", "125/35/210/40/60", nil},
}

// readStrike reads a strike without the help of the package.
func readStrike(text string) impl.Strike {
	var p [5]int
	for i, entry := range strings.Split(text, "/") {
		n, err := strconv.Atoi(entry)
		if err != nil {
			panic(err)
		}
		p[i] = n
	}
	return strikeOf(p[0], p[1], p[2], p[3], p[4])
}

func readStrikes(texts ...string) []impl.Strike {
	var l []impl.Strike
	for _, text := range texts {
		l = append(l, readStrike(text))
	}
	return l
}

func TestStrikesThatAreJustified(t *testing.T) {
	for _, c := range justifyCases {
		s, standard := readStrike(c.s), readStrike(c.standard)
		want := c.filings != nil
		if l, ok := impl.FilingsFor(s, standard); !slices.Equal(l, c.filings) || ok != want {
			t.Errorf("%s to %s: %v %v", c.s, c.standard, l, ok)
		}
		if is, ok := impl.CanBeJustified(s, standard); is != want || !ok {
			t.Errorf("%s to %s: %v %v", c.s, c.standard, is, ok)
		}
	}
}

func TestStandardFor(t *testing.T) {
	cases := []struct {
		l    []string
		want string
	}{
		{[]string{"125/40/210/35/60"}, "125/40/210/35/60"},
		{[]string{"1/1/1/1/1"}, "1/1/1/1/1"},
		{[]string{"999/999/999/999/999"}, "999/999/999/999/999"},
		{[]string{"125/40/210/35/60", "120/45/210/30/60"}, "120/40/210/30/60"},
		{[]string{"120/45/210/30/60", "125/40/210/35/60"}, "120/40/210/30/60"},
		{[]string{"999/1/5/999/1", "1/999/5/1/999"}, "1/1/5/1/1"},
		{[]string{"9/8/5/7/6", "8/9/5/8/7", "9/9/5/6/9"}, "8/8/5/6/6"},
		{[]string{"9/8/5/7/6", "9/8/5/7/5", "9/7/5/7/6", "3/8/5/7/6", "9/8/5/2/6"}, "3/7/5/2/5"},
	}
	for _, c := range cases {
		if s, ok := impl.StandardFor(readStrikes(c.l...)); s != readStrike(c.want) || !ok {
			t.Errorf("%v: %v %v", c.l, s, ok)
		}
	}
	if s, ok := impl.StandardFor(manyStrikes(30)); s != exampleStrike() || !ok {
		t.Error("MaxStrikes strikes", s, ok)
	}
	if s, ok := impl.StandardFor(append(manyStrikes(29), exampleStandard())); s != exampleStandard() || !ok {
		t.Error("MaxStrikes strikes, the last one with the least parts", s, ok)
	}
}

func TestStandardForNone(t *testing.T) {
	differing := [][]impl.Strike{
		nil, {},
		readStrikes("125/40/210/35/60", "125/40/211/35/60"),
		readStrikes("125/40/210/35/60", "125/40/209/35/60"),
		readStrikes("125/40/210/35/60", "125/40/210/35/60", "125/40/1/35/60"),
		readStrikes("125/40/210/35/60", "125/40/999/35/60", "125/40/210/35/60"),
		append(manyStrikes(29), withPart(exampleStrike(), 2, 209)),
	}
	for _, l := range append(differing, invalidStrikeLists()...) {
		if s, ok := impl.StandardFor(l); s != (impl.Strike{}) || ok {
			t.Errorf("%.200v: %v %v", l, s, ok)
		}
	}
}

func TestOffStandard(t *testing.T) {
	standard := "120/30/210/30/60"
	cases := []struct {
		l        []string
		standard string
		most     int
		want     []int
	}{
		{nil, standard, 0, nil},
		{nil, standard, 999, nil},
		{[]string{standard}, standard, 0, nil},
		{[]string{"125/40/210/35/60"}, standard, 10, nil},
		{[]string{"125/40/210/35/60"}, standard, 9, []int{0}},
		{[]string{"121/30/210/30/60", "119/30/210/30/60", "120/31/210/30/60", "120/29/210/30/60"}, standard, 0, []int{0, 1, 2, 3}},
		{[]string{"120/30/210/31/60", "120/30/210/29/60", "120/30/210/30/61", "120/30/210/30/59"}, standard, 0, []int{0, 1, 2, 3}},
		{[]string{"120/30/211/30/60", "120/30/209/30/60"}, standard, 0, []int{0, 1}}, // a Face is a part too
		{[]string{"120/30/211/30/60", "120/30/209/30/60"}, standard, 1, nil},
		{[]string{"121/29/211/29/61", "122/28/212/28/62", standard, "117/30/210/30/60"}, standard, 1, []int{1, 3}},
		{[]string{"121/29/211/29/61", "122/28/212/28/62", standard, "117/30/210/30/60"}, standard, 2, []int{3}},
		{[]string{"121/29/211/29/61", "122/28/212/28/62", standard, "117/30/210/30/60"}, standard, 3, nil},
		{[]string{"1/1/1/1/1", "999/999/999/999/999"}, "999/999/999/999/999", 998, nil},
		{[]string{"1/1/1/1/1", "999/999/999/999/999"}, "999/999/999/999/999", 997, []int{0}},
		{[]string{"1/1/1/1/1", "999/999/999/999/999"}, "1/1/1/1/1", 997, []int{1}},
		{[]string{"1/1/1/1/1", "999/999/999/999/999"}, "1/1/1/1/1", 999, nil},
	}
	for _, c := range cases {
		if l, ok := impl.OffStandard(readStrikes(c.l...), readStrike(c.standard), c.most); !slices.Equal(l, c.want) || !ok {
			t.Errorf("%v, %s, %d: %v %v", c.l, c.standard, c.most, l, ok)
		}
	}
	l, ok := impl.OffStandard(manyStrikes(30), exampleStandard(), 9)
	if len(l) != 30 || !ok {
		t.Error("MaxStrikes strikes", l, ok)
	}
	for i, n := range l {
		if n != i {
			t.Error("MaxStrikes strikes", l)
		}
	}
}

func TestLeastFiled(t *testing.T) {
	standard := "120/30/210/30/60"
	cases := []struct {
		l          []string
		standard   string
		index, sum int
		ok         bool
	}{
		{[]string{"125/40/210/35/60"}, standard, 0, 20, true},
		{[]string{"125/40/210/35/60", "121/31/210/31/61", "125/40/210/35/60"}, standard, 1, 4, true},
		{[]string{"125/40/210/35/60", standard}, standard, 1, 0, true},
		// Equally little filing: the first one.
		{[]string{"125/40/210/35/60", "140/30/210/30/60", "120/30/210/30/80", "120/50/210/30/60"}, standard, 0, 20, true},
		{[]string{"126/40/210/35/60", "140/30/210/30/60", "125/40/210/35/60"}, standard, 1, 20, true},
		{[]string{"126/40/210/35/60", standard, standard}, standard, 1, 0, true},
		// Those that cannot be justified do not count, though their parts together are less.
		{[]string{"119/30/210/30/60", "120/30/209/30/60", "120/29/210/30/60", "120/30/210/29/60", "120/30/210/30/59", "125/40/210/35/60"}, standard, 5, 20, true},
		{[]string{"120/30/211/30/60", "125/40/210/35/60", "119/31/210/30/60"}, standard, 1, 20, true},
		{[]string{"999/999/5/999/999"}, "1/1/5/1/1", 0, 3992, true},
		{[]string{"999/999/5/999/999", "999/999/5/999/998"}, "1/1/5/1/1", 1, 3991, true},
		{nil, standard, 0, 0, false},
		{[]string{"119/30/210/30/60"}, standard, 0, 0, false},
		{[]string{"119/30/210/30/60", "120/30/209/30/60", "120/30/211/30/60", "120/29/210/30/60", "120/30/210/29/60", "120/30/210/30/59"}, standard, 0, 0, false},
		{[]string{"999/999/999/999/999"}, "1/1/1/1/1", 0, 0, false},
	}
	for _, c := range cases {
		i, n, ok := impl.LeastFiled(readStrikes(c.l...), readStrike(c.standard))
		if i != c.index || n != c.sum || ok != c.ok {
			t.Errorf("%v to %s: %d %d %v", c.l, c.standard, i, n, ok)
		}
	}
	if i, n, ok := impl.LeastFiled(manyStrikes(30), exampleStandard()); i != 0 || n != 20 || !ok {
		t.Error("MaxStrikes strikes", i, n, ok)
	}
	if i, n, ok := impl.LeastFiled(append(manyStrikes(29), exampleStandard()), exampleStandard()); i != 29 || n != 0 || !ok {
		t.Error("the last one of MaxStrikes strikes", i, n, ok)
	}
}

func TestFileStrike(t *testing.T) {
	cases := []struct {
		s        string
		part, by int
		want     string
	}{
		{"125/40/210/35/60", 0, 5, "120/40/210/35/60"},
		{"125/40/210/35/60", 1, 10, "125/30/210/35/60"},
		{"125/40/210/35/60", 3, 5, "125/40/210/30/60"},
		{"125/40/210/35/60", 4, 1, "125/40/210/35/59"},
		{"125/40/210/35/60", 0, 124, "1/40/210/35/60"},
		{"999/999/999/999/999", 0, 998, "1/999/999/999/999"},
		{"999/999/999/999/999", 4, 998, "999/999/999/999/1"},
		{"2/2/2/2/2", 1, 1, "2/1/2/2/2"},
	}
	for _, c := range cases {
		if s, ok := impl.FileStrike(readStrike(c.s), c.part, c.by); s != readStrike(c.want) || !ok {
			t.Errorf("%s, part %d by %d: %v %v", c.s, c.part, c.by, s, ok)
		}
	}
}

func TestFileStrikeFails(t *testing.T) {
	refuse := func(s impl.Strike, part, by int) {
		t.Helper()
		if filed, ok := impl.FileStrike(s, part, by); filed != (impl.Strike{}) || ok {
			t.Errorf("%v, part %d by %d: %v %v", s, part, by, filed, ok)
		}
	}
	for _, part := range []int{0, 1, 3, 4} {
		// Filed to nothing, or to less.
		refuse(exampleStrike(), part, partsOf(exampleStrike())[part])
		refuse(exampleStrike(), part, partsOf(exampleStrike())[part]+1)
		refuse(leastStrike(), part, 1)
		refuse(leastStrike(), part, 999)
		refuse(greatestStrike(), part, 999)
		for _, by := range []int{0, -1, -5, 1000, 1001, math.MaxInt, math.MinInt} {
			refuse(exampleStrike(), part, by)
			refuse(greatestStrike(), part, by)
		}
		for _, s := range invalidStrikes() {
			refuse(s, part, 1)
			refuse(s, part, 999)
		}
	}
	for _, part := range []int{2, -1, -2, 5, 6, math.MaxInt, math.MinInt} {
		refuse(exampleStrike(), part, 1)
		refuse(greatestStrike(), part, 998)
	}
	// Filing makes no strike of what is none.
	refuse(strikeOf(1001, 40, 210, 35, 60), 0, 10)
	refuse(strikeOf(125, 40, 210, 35, 1000), 4, 1)
	refuse(strikeOf(125, 1000, 210, 35, 60), 1, 500)
}

func TestCentreStrike(t *testing.T) {
	cases := []struct{ s, want string }{
		{"125/40/210/35/60", "125/35/210/35/60"},
		{"125/35/210/40/60", "125/35/210/35/60"},
		{"125/40/210/40/60", "125/40/210/40/60"},
		{"1/1/1/1/1", "1/1/1/1/1"},
		{"999/999/999/999/999", "999/999/999/999/999"},
		{"5/1/5/999/5", "5/1/5/1/5"},
		{"5/999/5/1/5", "5/1/5/1/5"},
		{"1/998/5/999/9", "1/998/5/998/9"},
	}
	for _, c := range cases {
		if s, ok := impl.CentreStrike(readStrike(c.s)); s != readStrike(c.want) || !ok {
			t.Errorf("%s: %v %v", c.s, s, ok)
		}
	}
}

func TestDepthAfter(t *testing.T) {
	cases := []struct{ depth, casts, want int }{
		{125, 0, 125}, {125, 1, 125}, {125, 999, 125}, {125, 1000, 126}, {125, 1001, 126}, {125, 1999, 126}, {125, 2000, 127},
		{125, 500, 125}, {125, 123456, 248}, {125, 999999, 1124}, {125, 1000000, 1125},
		{1, 0, 1}, {1, 999, 1}, {1, 1000, 2}, {1, 998000, 999}, {1, 998999, 999}, {1, 999000, 1000}, {1, 1000000, 1001},
		{999, 0, 999}, {999, 999, 999}, {999, 1000, 1000}, {999, 1000000, 1999}, // more than MaxPart
	}
	for _, c := range cases {
		if n, ok := impl.DepthAfter(withPart(exampleStrike(), 0, c.depth), c.casts); n != c.want || !ok {
			t.Errorf("%d after %d casts: %d %v", c.depth, c.casts, n, ok)
		}
	}
	for _, casts := range invalidCasts {
		if n, ok := impl.DepthAfter(exampleStrike(), casts); n != 0 || ok {
			t.Errorf("%d casts: %d %v", casts, n, ok)
		}
	}
}

func TestCastsLeft(t *testing.T) {
	cases := []struct {
		depth, standard, most, want int
		ok                          bool
	}{
		{125, 120, 5, 999, true},
		{125, 120, 6, 1999, true},
		{125, 120, 10, 5999, true},
		{125, 120, 4, 0, false},
		{125, 120, 0, 0, false},
		{120, 120, 0, 999, true},
		{121, 120, 0, 0, false},
		{119, 120, 0, 1999, true},
		{1, 1, 998, 998999, true},
		{1, 1, 999, 999999, true},
		{1, 2, 999, 1000000, true}, // after 1000000 casts Depth is 1001
		{1, 2, 998, 999999, true},
		{1, 3, 999, 1000000, true},
		{1, 999, 999, 1000000, true},
		{1, 999, 0, 998999, true},
		{1, 999, 1, 999999, true},
		{1, 999, 2, 1000000, true},
		{999, 1, 998, 999, true},
		{999, 1, 997, 0, false},
		{999, 1, 999, 1999, true},
		{999, 1, 0, 0, false},
		{999, 999, 0, 999, true},
		{999, 999, 999, 999999, true}, // the last Depth is 1998, more than MaxPart
	}
	for _, c := range cases {
		s, standard := withPart(exampleStrike(), 0, c.depth), withPart(exampleStandard(), 0, c.standard)
		if n, ok := impl.CastsLeft(s, standard, c.most); n != c.want || ok != c.ok {
			t.Errorf("%d, %d, %d: %d %v", c.depth, c.standard, c.most, n, ok)
		}
		// The other parts have no influence, though the strike cannot be justified.
		if n, ok := impl.CastsLeft(s, strikeOf(c.standard, 999, 1, 999, 999), c.most); n != c.want || ok != c.ok {
			t.Errorf("%d, %d, %d with other parts: %d %v", c.depth, c.standard, c.most, n, ok)
		}
	}
}

// TestCastsLeftIsGreatest compares CastsLeft with the Depths after these casts and after one more.
func TestCastsLeftIsGreatest(t *testing.T) {
	r := rand.New(rand.NewSource(3))
	failed := 0
	for range 20000 {
		s, standard, most := randomStrike(r, 999), randomStrike(r, 999), r.Intn(1000)
		n, ok := impl.CastsLeft(s, standard, most)
		if !ok {
			failed++
			if n != 0 || s.Depth-standard.Depth <= most {
				t.Fatalf("%v, %v, %d: %d %v", s, standard, most, n, ok)
			}
			continue
		}
		last, good := impl.DepthAfter(s, n)
		if !good || last-standard.Depth > most {
			t.Fatalf("%v, %v, %d: %d casts, then %d", s, standard, most, n, last)
		}
		if more, can := impl.DepthAfter(s, n+1); can && more-standard.Depth <= most || !can && n != 1000000 {
			t.Fatalf("%v, %v, %d: %d casts, after one more %d", s, standard, most, n, more)
		}
	}
	if failed < 1000 {
		t.Error("only", failed, "strikes are too deep")
	}
}

func TestStrikeText(t *testing.T) {
	for _, text := range []string{"125/40/210/35/60", "120/30/210/30/60", "1/1/1/1/1", "999/999/999/999/999", "1/2/3/4/5", "10/100/9/99/1", "999/1/999/1/999"} {
		s := readStrike(text)
		if x, ok := impl.StrikeText(s); x != text || !ok {
			t.Errorf("%v: %q %v", s, x, ok)
		}
		if x, ok := impl.ParseStrike(text); x != s || !ok {
			t.Errorf("%q: %v %v", text, x, ok)
		}
	}
}

func TestParseStrikeOfInvalidTexts(t *testing.T) {
	texts := []string{
		"", "/", "////", "/////", "1", "1/1", "1/1/1/1", "1/1/1/1/", "/1/1/1/1", "1/1/1/1/1/", "/1/1/1/1/1", "1/1/1/1/1/1", "1//1/1/1", "1/1//1/1/1",
		"125 /40/210/35/60", " 125/40/210/35/60", "125/40/210/35/60 ", "125/ 40/210/35/60", "125/40/210/35/60\n", "125/40/210/35/60\x00",
		"125-40-210-35-60", "125,40,210,35,60", "125/40/210/35;60", "125\\40\\210\\35\\60", "125/40/210/35/60;",
		"0x1/1/1/1/1", "1e1/1/1/1/1", "1_0/1/1/1/1", "1.0/1/1/1/1", "a/1/1/1/1", "٣/1/1/1/1", "\xff/1/1/1/1",
		strings.Repeat("/", 100000), strings.Repeat("1/", 100000), strings.Repeat("1", 100000), "1/1/1/1/" + strings.Repeat("0", 100000) + "1", "1/1/1/1/" + strings.Repeat("9", 100000),
	}
	for part := range 5 {
		for _, entry := range []string{"", "0", "00", "01", "001", "0001", "+1", "-1", "-0", "+0", "1000", "1001", "99999999999999999999", "18446744073709551617", "-18446744073709551615", " ", "-"} {
			entries := []string{"125", "40", "210", "35", "60"}
			entries[part] = entry
			texts = append(texts, strings.Join(entries, "/"))
		}
	}
	for _, text := range texts {
		if s, ok := impl.ParseStrike(text); s != (impl.Strike{}) || ok {
			t.Errorf("%.40q: %v %v", text, s, ok)
		}
	}
}

// TestParseStrikeOfChangedTexts checks that a text is read just if it is the text of the strike that is read.
func TestParseStrikeOfChangedTexts(t *testing.T) {
	numbers := map[string]int{}
	for n := 1; n <= 999; n++ {
		numbers[strconv.Itoa(n)] = n
	}
	r := rand.New(rand.NewSource(4))
	parsed := 0
	for range 40000 {
		text := []byte("125/40/210/5/60")
		for range 1 + r.Intn(3) {
			at := r.Intn(len(text))
			switch b := "0123456789//// +-a"[r.Intn(18)]; r.Intn(3) {
			case 0:
				text[at] = b
			case 1:
				text = slices.Insert(text, at, b)
			case 2:
				text = slices.Delete(text, at, at+1)
			}
		}
		var want []int
		entries := strings.Split(string(text), "/")
		for _, entry := range entries {
			if n := numbers[entry]; n > 0 {
				want = append(want, n)
			}
		}
		good := len(entries) == 5 && len(want) == 5
		if !good {
			want = make([]int, 5)
		} else {
			parsed++
		}
		if s, ok := impl.ParseStrike(string(text)); !slices.Equal(partsOf(s), want) || ok != good {
			t.Fatalf("%q: %v %v", text, s, ok)
		}
	}
	if parsed < 1000 {
		t.Error("only", parsed, "texts were read")
	}
}

// randomStrike returns a strike with parts that are not greater than a number.
func randomStrike(r *rand.Rand, most int) impl.Strike {
	return strikeOf(1+r.Intn(most), 1+r.Intn(most), 1+r.Intn(most), 1+r.Intn(most), 1+r.Intn(most))
}

// couldBeJustified tells whether a file can make a strike that has the parts of a standard.
func couldBeJustified(s, standard impl.Strike) bool {
	return s.Depth >= standard.Depth && s.Left >= standard.Left && s.Face == standard.Face && s.Right >= standard.Right && s.Foot >= standard.Foot
}

// checkFilings checks that the filings lead to the standard, part by part; it returns their sum, or -1 if there are none.
func checkFilings(t *testing.T, s, standard impl.Strike) int {
	t.Helper()
	want := couldBeJustified(s, standard)
	if is, ok := impl.CanBeJustified(s, standard); is != want || !ok {
		t.Fatalf("%v to %v: %v %v", s, standard, is, ok)
	}
	l, ok := impl.FilingsFor(s, standard)
	if ok != want || !ok && len(l) != 0 {
		t.Fatalf("%v to %v: %v %v", s, standard, l, ok)
	}
	if !ok {
		return -1
	}
	sum := 0
	filed := s
	for part, by := range l {
		sum += by
		if by == 0 {
			continue
		}
		var can bool
		if filed, can = impl.FileStrike(filed, part, by); !can {
			t.Fatalf("%v to %v: part %d cannot be filed by %d", s, standard, part, by)
		}
	}
	if len(l) != 5 || filed != standard {
		t.Fatalf("%v to %v: %v lead to %v", s, standard, l, filed)
	}
	return sum
}

func TestRandomFilings(t *testing.T) {
	r := rand.New(rand.NewSource(6))
	justified := 0
	for range 20000 {
		most := 1 + r.Intn(5)
		if r.Intn(10) == 0 {
			most = 999
		}
		if checkFilings(t, randomStrike(r, most), randomStrike(r, most)) >= 0 {
			justified++
		}
	}
	if justified < 500 {
		t.Error("only", justified, "strikes could be justified")
	}
}

// TestRandomStandards checks that all strikes can be justified to their standard, and to none of which a part is greater.
func TestRandomStandards(t *testing.T) {
	r := rand.New(rand.NewSource(7))
	made := 0
	for range 3000 {
		l := make([]impl.Strike, 1+r.Intn(30))
		face := 1 + r.Intn(999)
		for i := range l {
			l[i] = withPart(randomStrike(r, 999), 2, face)
		}
		if r.Intn(4) == 0 {
			at := r.Intn(len(l))
			l[at].Face = 1 + r.Intn(999)
		}
		same := !slices.ContainsFunc(l, func(s impl.Strike) bool { return s.Face != l[0].Face })
		standard, ok := impl.StandardFor(l)
		if ok != same || !ok && standard != (impl.Strike{}) {
			t.Fatalf("%v: %v %v", l, standard, ok)
		}
		if !ok {
			continue
		}
		made++
		for _, s := range l {
			checkFilings(t, s, standard)
		}
		for part := range 5 {
			greater := withPart(standard, part, partsOf(standard)[part]+1)
			if !slices.ContainsFunc(l, func(s impl.Strike) bool { return !couldBeJustified(s, greater) }) {
				t.Fatalf("%v: all could be justified to %v, though the standard is %v", l, greater, standard)
			}
		}
	}
	if made < 1000 {
		t.Error("only", made, "standards")
	}
}

// TestRandomLists compares LeastFiled and OffStandard with what is told of each strike alone.
func TestRandomLists(t *testing.T) {
	r := rand.New(rand.NewSource(8))
	found, none := 0, 0
	for range 5000 {
		l := make([]impl.Strike, r.Intn(31))
		for i := range l {
			l[i] = withPart(randomStrike(r, 5), 2, 1+r.Intn(2))
		}
		standard, most := withPart(randomStrike(r, 3), 2, 1), r.Intn(5)
		best, least := -1, 0
		var off []int
		for i, s := range l {
			if sum := checkFilings(t, s, standard); sum >= 0 && (best < 0 || sum < least) {
				best, least = i, sum
			}
			for part, n := range partsOf(s) {
				if d := n - partsOf(standard)[part]; max(d, -d) > most {
					off = append(off, i)
					break
				}
			}
		}
		i, n, ok := impl.LeastFiled(l, standard)
		if i != max(best, 0) || n != least || ok != (best >= 0) {
			t.Fatalf("%v to %v: %d %d %v, want %d %d", l, standard, i, n, ok, best, least)
		}
		if x, good := impl.OffStandard(l, standard, most); !slices.Equal(x, off) || !good {
			t.Fatalf("%v, %v, %d: %v %v, want %v", l, standard, most, x, good, off)
		}
		if ok {
			found++
		} else {
			none++
		}
	}
	if found < 500 || none < 50 {
		t.Error("too few lists:", found, "with a strike that fits,", none, "without")
	}
}

func TestRandomStrikes(t *testing.T) {
	r := rand.New(rand.NewSource(9))
	for range 5000 {
		s := randomStrike(r, 999)
		text, ok := impl.StrikeText(s)
		if x, good := impl.ParseStrike(text); x != s || !ok || !good {
			t.Fatalf("%v has the text %q, which is read as %v", s, text, x)
		}
		if n, ok := impl.WidthOfStrike(s); n != s.Left+s.Face+s.Right || !ok {
			t.Fatalf("%v: %d %v", s, n, ok)
		}
		side := min(s.Left, s.Right)
		if x, ok := impl.CentreStrike(s); x != strikeOf(s.Depth, side, s.Face, side, s.Foot) || !ok {
			t.Fatalf("%v: %v %v", s, x, ok)
		}
	}
}

// refusePair checks that no function on a strike and a standard takes these two.
func refusePair(t *testing.T, s, standard impl.Strike) {
	t.Helper()
	if l, ok := impl.FilingsFor(s, standard); len(l) != 0 || ok {
		t.Errorf("filings from %v to %v: %v %v", s, standard, l, ok)
	}
	if is, ok := impl.CanBeJustified(s, standard); is || ok {
		t.Errorf("%v to %v: %v %v", s, standard, is, ok)
	}
	for _, most := range []int{0, 10, 999} {
		if n, ok := impl.CastsLeft(s, standard, most); n != 0 || ok {
			t.Errorf("casts left for %v, %v, %d: %d %v", s, standard, most, n, ok)
		}
	}
}

func TestInvalidStrikes(t *testing.T) {
	for _, s := range invalidStrikes() {
		for _, valid := range validStrikes() {
			refusePair(t, s, valid)
			refusePair(t, valid, s)
		}
		refusePair(t, s, s)
		if n, ok := impl.WidthOfStrike(s); n != 0 || ok {
			t.Errorf("width of %v: %d %v", s, n, ok)
		}
		if x, ok := impl.CentreStrike(s); x != (impl.Strike{}) || ok {
			t.Errorf("%v centred: %v %v", s, x, ok)
		}
		for _, casts := range []int{0, 1000, 1000000} {
			if n, ok := impl.DepthAfter(s, casts); n != 0 || ok {
				t.Errorf("%v after %d casts: %d %v", s, casts, n, ok)
			}
		}
		if x, ok := impl.StrikeText(s); x != "" || ok {
			t.Errorf("text of %v: %q %v", s, x, ok)
		}
	}
}

// refuseList checks that no function on a list of strikes takes these arguments.
func refuseList(t *testing.T, l []impl.Strike, standard impl.Strike, most int) {
	t.Helper()
	if x, ok := impl.OffStandard(l, standard, most); len(x) != 0 || ok {
		t.Errorf("%.200v, %v, %d: %v %v", l, standard, most, x, ok)
	}
}

func TestInvalidStrikeLists(t *testing.T) {
	for _, l := range invalidStrikeLists() {
		for _, most := range []int{0, 10, 999} {
			refuseList(t, l, exampleStandard(), most)
		}
		if i, n, ok := impl.LeastFiled(l, exampleStandard()); i != 0 || n != 0 || ok {
			t.Errorf("%.200v: %d %d %v", l, i, n, ok)
		}
	}
	for _, standard := range invalidStrikes() {
		for _, l := range [][]impl.Strike{nil, manyStrikes(1), manyStrikes(30), {greatestStrike()}} {
			refuseList(t, l, standard, 999)
			refuseList(t, l, standard, 0)
			if i, n, ok := impl.LeastFiled(l, standard); i != 0 || n != 0 || ok {
				t.Errorf("%.200v to %v: %d %d %v", l, standard, i, n, ok)
			}
		}
	}
}

func TestInvalidTolerances(t *testing.T) {
	for _, most := range invalidTolerances {
		for _, l := range [][]impl.Strike{nil, {}, manyStrikes(2), manyStrikes(30)} {
			refuseList(t, l, exampleStandard(), most)
		}
		for _, s := range validStrikes() {
			if n, ok := impl.CastsLeft(s, exampleStandard(), most); n != 0 || ok {
				t.Errorf("%v, %d: %d %v", s, most, n, ok)
			}
		}
	}
}

// TestStrikesStay calls the functions on lists with lists that have spare capacity, of which they must neither take nor change a strike.
func TestStrikesStay(t *testing.T) {
	lists := append(invalidStrikeLists(), nil, []impl.Strike{exampleStrike()}, []impl.Strike{exampleStrike(), exampleStandard()}, manyStrikes(29), manyStrikes(30))
	for _, given := range lists {
		for _, spare := range []impl.Strike{{}, leastStrike(), exampleStandard(), withPart(exampleStrike(), 2, 5)} {
			l, stays := guarded(t, "strikes", given, spare)
			plain := slices.Clip(slices.Clone(given))
			standard, ok := impl.StandardFor(l)
			if want, good := impl.StandardFor(plain); standard != want || ok != good {
				t.Errorf("%.200v: %v %v", given, standard, ok)
			}
			i, n, ok := impl.LeastFiled(l, exampleStandard())
			if wantI, wantN, good := impl.LeastFiled(plain, exampleStandard()); i != wantI || n != wantN || ok != good {
				t.Errorf("%.200v: %d %d %v", given, i, n, ok)
			}
			off, ok := impl.OffStandard(l, exampleStandard(), 5)
			if want, good := impl.OffStandard(plain, exampleStandard(), 5); !slices.Equal(off, want) || ok != good {
				t.Errorf("%.200v: %v %v", given, off, ok)
			}
			overwrite(off, ok)
			stays()
		}
	}
}

// TestMatrixResultsAreNew checks that the same call gives the same result when an earlier one has been overwritten.
func TestMatrixResultsAreNew(t *testing.T) {
	for range 2 {
		filings, _ := impl.FilingsFor(exampleStrike(), exampleStandard())
		off, _ := impl.OffStandard(manyStrikes(3), exampleStandard(), 9)
		if !slices.Equal(filings, []int{5, 10, 0, 5, 0}) || !slices.Equal(off, []int{0, 1, 2}) {
			t.Error(filings, off)
		}
		again, _ := impl.FilingsFor(exampleStrike(), exampleStandard())
		if shareMemory(filings, again) {
			t.Error("the filings of two calls share memory")
		}
		overwrite(filings, true)
		overwrite(off, true)
	}
}
