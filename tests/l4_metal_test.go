package tests

import (
	"math"
	"math/rand"
	"slices"
	"strconv"
	"strings"
	"testing"

	"loop.example/g01054/impl"
)

// maxMetal is written out, so that the tests do not follow a wrong constant.
const maxMetal = 1000000

func meltOf(lead, tin, antimony int) impl.Melt {
	return impl.Melt{Lead: lead, Tin: tin, Antimony: antimony}
}

func blendOf(lowTin, highTin, lowAntimony, highAntimony int) impl.Blend {
	return impl.Blend{LowTin: lowTin, HighTin: highTin, LowAntimony: lowAntimony, HighAntimony: highAntimony}
}

// withTin returns a blend that tells something of tin alone.
func withTin(low, high int) impl.Blend { return blendOf(low, high, 0, 1000) }

// exchanged and exchangedBlend have tin and antimony exchanged.
func exchanged(m impl.Melt) impl.Melt { return meltOf(m.Lead, m.Antimony, m.Tin) }

func exchangedBlend(b impl.Blend) impl.Blend {
	return blendOf(b.LowAntimony, b.HighAntimony, b.LowTin, b.HighTin)
}

func gramsIn(m impl.Melt) []int { return []int{m.Lead, m.Tin, m.Antimony} }

func sumOf(m impl.Melt) int { return m.Lead + m.Tin + m.Antimony }

func added(a, b impl.Melt) impl.Melt {
	return meltOf(a.Lead+b.Lead, a.Tin+b.Tin, a.Antimony+b.Antimony)
}

func exampleMelt() impl.Melt   { return meltOf(80, 5, 15) }
func fullMelt() impl.Melt      { return meltOf(maxMetal, maxMetal, maxMetal) }
func exampleBlend() impl.Blend { return blendOf(60, 100, 100, 200) }
func anyBlend() impl.Blend     { return blendOf(0, 1000, 0, 1000) }

func validMelts() []impl.Melt {
	l := []impl.Melt{{}, exampleMelt(), fullMelt(), meltOf(1, 1, 1)}
	for _, n := range []int{1, 5, 999999, maxMetal} {
		l = append(l, meltOf(n, 0, 0), meltOf(0, n, 0), meltOf(0, 0, n), meltOf(0, n, n), meltOf(n, 0, n), meltOf(n, n, 0))
	}
	return l
}

func invalidMelts() []impl.Melt {
	l := []impl.Melt{meltOf(-1, -1, -1), meltOf(maxMetal+1, maxMetal+1, maxMetal+1), meltOf(math.MinInt, math.MinInt, math.MinInt), meltOf(math.MaxInt, math.MaxInt, math.MaxInt)}
	for _, n := range []int{-1, -80, -maxMetal, maxMetal + 1, 2 * maxMetal, math.MaxInt, math.MinInt, math.MinInt + 1, math.MaxInt / 1000} {
		l = append(l, meltOf(n, 5, 15), meltOf(80, n, 15), meltOf(80, 5, n), meltOf(n, 0, 0), meltOf(0, n, 0), meltOf(0, 0, n))
	}
	// Together they are no less than 0, and no more than MaxMetal.
	return append(l, meltOf(-1, 1, 0), meltOf(-5, 5, 5), meltOf(10, -5, -5), meltOf(0, maxMetal+1, -1))
}

func validBlends() []impl.Blend {
	l := []impl.Blend{exampleBlend(), anyBlend(), {}}
	for _, bounds := range [][]int{{0, 0}, {0, 1}, {1, 1}, {500, 500}, {0, 1000}, {999, 1000}, {1000, 1000}} {
		l = append(l, blendOf(bounds[0], bounds[1], 0, 1000), blendOf(0, 1000, bounds[0], bounds[1]), blendOf(bounds[0], bounds[1], bounds[0], bounds[1]))
	}
	// Least shares that are more than a whole together are a blend too, though no melt fits it.
	return append(l, blendOf(600, 700, 600, 700))
}

func invalidBlends() []impl.Blend {
	var l []impl.Blend
	pairs := [][]int{
		{-1, 0}, {-1, 100}, {-1, 1000}, {-1, -1}, {-100, -1}, {0, -1}, {1, 0}, {61, 60}, {1000, 999}, {1000, 0}, {0, 1001}, {60, 1001}, {1000, 1001}, {1001, 1001}, {1001, 1000}, {1001, 100},
		{math.MinInt, 100}, {60, math.MinInt}, {60, math.MaxInt}, {math.MaxInt, 100}, {math.MaxInt, math.MaxInt}, {math.MinInt, math.MinInt}, {math.MinInt, math.MaxInt},
	}
	for _, bounds := range pairs {
		l = append(l, blendOf(bounds[0], bounds[1], 100, 200), blendOf(60, 100, bounds[0], bounds[1]), blendOf(bounds[0], bounds[1], bounds[0], bounds[1]))
	}
	return l
}

func TestMetalConstants(t *testing.T) {
	if impl.MaxMetal != maxMetal {
		t.Error(impl.MaxMetal)
	}
}

func TestIsMelt(t *testing.T) {
	for _, m := range validMelts() {
		if !impl.IsMelt(m) {
			t.Errorf("%v is a melt", m)
		}
	}
	for _, m := range invalidMelts() {
		if impl.IsMelt(m) {
			t.Errorf("%v is no melt", m)
		}
	}
}

func TestIsBlend(t *testing.T) {
	for _, b := range validBlends() {
		if !impl.IsBlend(b) {
			t.Errorf("%v is a blend", b)
		}
	}
	for _, b := range invalidBlends() {
		if impl.IsBlend(b) {
			t.Errorf("%v is no blend", b)
		}
	}
}

func TestGramsAndShares(t *testing.T) {
	cases := []struct {
		m      impl.Melt
		grams  int
		shares []int
	}{
		{exampleMelt(), 100, []int{800, 50, 150}},
		{meltOf(1, 0, 0), 1, []int{1000, 0, 0}},
		{meltOf(0, 1, 0), 1, []int{0, 1000, 0}},
		{meltOf(0, 0, 1), 1, []int{0, 0, 1000}},
		{meltOf(1, 1, 1), 3, []int{333, 333, 333}}, // rounded down, all three
		{meltOf(2, 1, 0), 3, []int{666, 333, 0}},
		{meltOf(1, 2, 4), 7, []int{142, 285, 571}},
		{meltOf(999, 1, 0), 1000, []int{999, 1, 0}},
		{meltOf(1000, 1, 0), 1001, []int{999, 0, 0}},
		{meltOf(1, 0, 1000), 1001, []int{0, 0, 999}},
		{meltOf(maxMetal, 0, 0), maxMetal, []int{1000, 0, 0}},
		{meltOf(maxMetal, 1, maxMetal), 2*maxMetal + 1, []int{499, 0, 499}},
		{fullMelt(), 3 * maxMetal, []int{333, 333, 333}}, // more grams than MaxMetal
	}
	for _, c := range cases {
		if n, ok := impl.GramsOf(c.m); n != c.grams || !ok {
			t.Errorf("%v: %d %v", c.m, n, ok)
		}
		if l, ok := impl.SharesOf(c.m); !slices.Equal(l, c.shares) || !ok {
			t.Errorf("%v: %v %v", c.m, l, ok)
		}
	}
}

// TestEmptyMelt calls every function with a melt without metal.
func TestEmptyMelt(t *testing.T) {
	empty := impl.Melt{}
	if n, ok := impl.GramsOf(empty); n != 0 || !ok {
		t.Error("grams", n, ok)
	}
	if l, ok := impl.SharesOf(empty); len(l) != 0 || ok {
		t.Error("shares", l, ok)
	}
	if m, ok := impl.JoinMelts([]impl.Melt{empty, empty}); m != empty || !ok {
		t.Error("joined", m, ok)
	}
	if m, ok := impl.JoinMelts([]impl.Melt{empty, exampleMelt(), empty}); m != exampleMelt() || !ok {
		t.Error("joined to another one", m, ok)
	}
	if m, rest, ok := impl.TakeMelt(empty, 0); m != empty || rest != empty || !ok {
		t.Error("nothing taken", m, rest, ok)
	}
	if m, rest, ok := impl.TakeMelt(empty, 1); m != empty || rest != empty || ok {
		t.Error("one gram taken", m, rest, ok)
	}
	for _, percent := range []int{0, 1, 50, 100} {
		if m, n, ok := impl.AfterDross(empty, percent); m != empty || n != 0 || !ok {
			t.Error("dross", percent, m, n, ok)
		}
	}
	if s, ok := impl.MeltText(empty); s != "0-0-0" || !ok {
		t.Error("text", s, ok)
	}
	if m, ok := impl.ParseMelt("0-0-0"); m != empty || !ok {
		t.Error("read", m, ok)
	}
	for _, b := range validBlends() {
		refuseToBlend(t, empty, b)
		if n, ok := impl.LeastOfOther(empty, empty, b); n != 0 || ok {
			t.Errorf("nothing joined to nothing for %v: %d %v", b, n, ok)
		}
	}
}

// fitCases tell whether melts fit blends.
var fitCases = []struct {
	melt string
	b    impl.Blend
	fits bool
}{
	{"80-5-15", blendOf(60, 100, 100, 200), false},
	{"80-7-15", blendOf(60, 100, 100, 200), true},
	{"80-5-15", blendOf(50, 100, 100, 200), true}, // exactly the least of tin
	{"80-5-15", blendOf(51, 100, 100, 200), false},
	{"80-5-15", blendOf(0, 50, 100, 200), true}, // exactly the greatest
	{"80-5-15", blendOf(0, 49, 100, 200), false},
	{"80-5-15", blendOf(0, 100, 150, 200), true}, // exactly the least of antimony
	{"80-5-15", blendOf(0, 100, 151, 200), false},
	{"80-5-15", blendOf(0, 100, 0, 150), true}, // exactly the greatest
	{"80-5-15", blendOf(0, 100, 0, 149), false},
	{"80-5-15", blendOf(50, 50, 150, 150), true},
	{"80-5-15", blendOf(50, 50, 149, 149), false},
	{"80-5-15", blendOf(51, 51, 150, 150), false},
	{"80-15-5", blendOf(50, 50, 150, 150), false},
	{"80-5-15", blendOf(0, 1000, 0, 1000), true},
	// One third is not 333, nor 334.
	{"1-1-1", blendOf(333, 334, 333, 334), true},
	{"1-1-1", blendOf(333, 333, 0, 1000), false},
	{"1-1-1", blendOf(334, 334, 0, 1000), false},
	{"1-1-1", blendOf(0, 1000, 333, 333), false},
	{"1-1-1", blendOf(0, 1000, 334, 334), false},
	{"1-1-1", blendOf(0, 333, 0, 1000), false},
	{"1-1-1", blendOf(0, 334, 0, 334), true},
	{"1-1-1", blendOf(334, 1000, 0, 1000), false},
	{"1-1-1", blendOf(333, 1000, 333, 1000), true},
	{"1-2-0", blendOf(666, 667, 0, 0), true},
	{"1-2-0", blendOf(667, 1000, 0, 0), false}, // only if it were rounded up
	{"1-2-0", blendOf(0, 666, 0, 0), false},    // only if it were rounded down
	{"999999-1-0", blendOf(0, 0, 0, 0), false},
	{"999999-0-1", blendOf(0, 0, 0, 0), false},
	{"1000000-0-0", blendOf(0, 0, 0, 0), true},
	{"1000000-1-0", blendOf(0, 1, 0, 0), true},
	{"0-1000000-1", blendOf(1000, 1000, 0, 1000), false},
	{"0-1-1000000", blendOf(0, 1000, 1000, 1000), false},
	{"0-1000000-1", blendOf(999, 1000, 0, 1), true},
	{"0-1-0", blendOf(1000, 1000, 0, 0), true},
	{"0-0-1", blendOf(0, 0, 1000, 1000), true},
	{"0-1-1", blendOf(500, 500, 500, 500), true},
	{"1-1-1", blendOf(600, 700, 600, 700), false},
	{"0-1-1", blendOf(600, 700, 600, 700), false},
	{"1000000-1000000-1000000", blendOf(333, 334, 333, 334), true},
	{"1000000-1000000-1000000", blendOf(334, 334, 334, 334), false},
	{"500000-250000-250000", blendOf(250, 250, 250, 250), true},
	{"500000-249999-250001", blendOf(250, 1000, 0, 1000), false},
	{"500000-249999-250001", blendOf(0, 1000, 0, 250), false},
	{"500000-249999-250001", blendOf(0, 250, 250, 1000), true},
}

// readMelt reads a melt without the help of the package.
func readMelt(text string) impl.Melt {
	var grams [3]int
	for i, entry := range strings.Split(text, "-") {
		n, err := strconv.Atoi(entry)
		if err != nil {
			panic(err)
		}
		grams[i] = n
	}
	return meltOf(grams[0], grams[1], grams[2])
}

func readMelts(texts ...string) []impl.Melt {
	var l []impl.Melt
	for _, text := range texts {
		l = append(l, readMelt(text))
	}
	return l
}

func TestDoesFit(t *testing.T) {
	for _, c := range fitCases {
		m := readMelt(c.melt)
		if is, ok := impl.DoesFit(m, c.b); is != c.fits || !ok {
			t.Errorf("%v for %v: %v %v", m, c.b, is, ok)
		}
		if is, ok := impl.DoesFit(exchanged(m), exchangedBlend(c.b)); is != c.fits || !ok {
			t.Errorf("%v for %v, tin and antimony exchanged: %v %v", m, c.b, is, ok)
		}
		// What fits needs nothing to be added.
		n, ok := impl.LeastOfOther(m, exampleMelt(), c.b)
		if isFirst := n == 0 && ok; isFirst != c.fits {
			t.Errorf("%v for %v: another one must be joined %d times %v", m, c.b, n, ok)
		}
	}
}

func manyMelts(n int) []impl.Melt { return slices.Repeat([]impl.Melt{exampleMelt()}, n) }

func TestJoinMelts(t *testing.T) {
	cases := []struct {
		l    []impl.Melt
		want string
	}{
		{nil, "0-0-0"},
		{[]impl.Melt{}, "0-0-0"},
		{make([]impl.Melt, 20), "0-0-0"},
		{readMelts("80-5-15"), "80-5-15"},
		{readMelts("80-5-15", "1-20-300"), "81-25-315"},
		{readMelts("1-0-0", "0-2-0", "0-0-3", "40-50-60"), "41-52-63"},
		{readMelts("1000000-1000000-1000000"), "1000000-1000000-1000000"},
		{readMelts("999999-0-1000000", "1-1000000-0"), "1000000-1000000-1000000"},
		{manyMelts(19), "1520-95-285"},
		{manyMelts(20), "1600-100-300"},
		{slices.Repeat(readMelts("50000-50000-50000"), 20), "1000000-1000000-1000000"},
		{append(make([]impl.Melt, 19), exampleMelt()), "80-5-15"},
	}
	for _, c := range cases {
		if m, ok := impl.JoinMelts(c.l); m != readMelt(c.want) || !ok {
			t.Errorf("%v: %v %v", c.l, m, ok)
		}
	}
}

func TestMeltsThatCannotBeJoined(t *testing.T) {
	lists := [][]impl.Melt{
		// One gram too many.
		readMelts("1000000-0-0", "1-0-0"),
		readMelts("0-1000000-0", "0-1-0"),
		readMelts("0-0-1000000", "0-0-1"),
		readMelts("500000-0-0", "500000-0-0", "1-0-0"),
		readMelts("1000000-1000000-1000000", "0-0-1"),
		append(slices.Repeat(readMelts("50000-50000-50000"), 19), readMelt("50000-50001-50000")),
		slices.Repeat(readMelts("1000000-1000000-1000000"), 20),
		// One melt too many, though it has no metal.
		manyMelts(21), manyMelts(2000), make([]impl.Melt, 21), append(manyMelts(20), impl.Melt{}),
	}
	for _, m := range invalidMelts() {
		lists = append(lists, []impl.Melt{m}, []impl.Melt{m, exampleMelt()}, []impl.Melt{exampleMelt(), m}, []impl.Melt{{}, m}, append(manyMelts(19), m))
		// The sum would be a melt.
		lists = append(lists, []impl.Melt{m, meltOf(80-m.Lead, 5-m.Tin, 15-m.Antimony)})
	}
	for _, l := range lists {
		if m, ok := impl.JoinMelts(l); m != (impl.Melt{}) || ok {
			t.Errorf("%.200v: %v %v", l, m, ok)
		}
	}
}

// takeCases tell what is taken and what is left; nothing where there is not so much lead.
var takeCases = []struct {
	melt        string
	grams       int
	taken, rest string
}{
	{"80-5-15", 0, "0-0-0", "80-5-15"},
	{"80-5-15", 100, "80-5-15", "0-0-0"},
	{"80-5-15", 50, "41-2-7", "39-3-8"},
	{"80-5-15", 20, "16-1-3", "64-4-12"},
	{"80-5-15", 1, "1-0-0", "79-5-15"},
	{"80-5-15", 6, "6-0-0", "74-5-15"},
	{"80-5-15", 7, "6-0-1", "74-5-14"},
	{"80-5-15", 19, "17-0-2", "63-5-13"},
	{"80-5-15", 99, "81-4-14", ""},
	{"80-5-15", 95, "77-4-14", "3-1-1"},
	{"80-5-15", 98, "80-4-14", "0-1-1"}, // all lead
	{"0-10-0", 0, "0-0-0", "0-10-0"},
	{"0-10-0", 5, "0-5-0", "0-5-0"},
	{"0-10-0", 10, "0-10-0", "0-0-0"},
	{"0-0-10", 3, "0-0-3", "0-0-7"},
	{"10-0-0", 3, "3-0-0", "7-0-0"},
	{"0-1-1", 0, "0-0-0", "0-1-1"},
	{"0-1-1", 1, "", ""},
	{"0-1-1", 2, "0-1-1", "0-0-0"},
	{"1-1-1", 1, "1-0-0", "0-1-1"},
	{"1-1-1", 2, "", ""}, // 2 of lead lack one
	{"1-1-1", 3, "1-1-1", "0-0-0"},
	{"2-1-1", 3, "", ""},
	{"3-1-1", 3, "3-0-0", "0-1-1"},
	{"3-1-1", 4, "", ""},
	{"1-3-0", 3, "1-2-0", "0-1-0"},
	{"1-0-3", 3, "1-0-2", "0-0-1"},
	{"0-0-0", 0, "0-0-0", "0-0-0"},
	{"1000000-0-0", 1000000, "1000000-0-0", "0-0-0"},
	{"1000000-1000000-1000000", 0, "0-0-0", "1000000-1000000-1000000"},
	{"1000000-1000000-1000000", 3000000, "1000000-1000000-1000000", "0-0-0"}, // more grams than MaxMetal
	{"1000000-1000000-1000000", 1500000, "500000-500000-500000", "500000-500000-500000"},
	{"1000000-1000000-1000000", 1000000, "333334-333333-333333", "666666-666667-666667"},
	{"1000000-1000000-1000000", 2999999, "", ""},
	{"1000000-999999-1", 1999999, "1000000-999998-0", ""},
}

func TestTakeMelt(t *testing.T) {
	for _, c := range takeCases {
		m := readMelt(c.melt)
		want := c.taken != "" && c.rest != ""
		var wantTaken, wantRest impl.Melt
		if want {
			wantTaken, wantRest = readMelt(c.taken), readMelt(c.rest)
		}
		taken, rest, ok := impl.TakeMelt(m, c.grams)
		if taken != wantTaken || rest != wantRest || ok != want {
			t.Errorf("%d of %s: %v %v %v", c.grams, c.melt, taken, rest, ok)
		}
		taken, rest, ok = impl.TakeMelt(exchanged(m), c.grams)
		if taken != exchanged(wantTaken) || rest != exchanged(wantRest) || ok != want {
			t.Errorf("%d of %s, tin and antimony exchanged: %v %v %v", c.grams, c.melt, taken, rest, ok)
		}
	}
}

func TestTakeInvalidGrams(t *testing.T) {
	for _, m := range validMelts() {
		all := sumOf(m)
		for _, grams := range []int{-1, -all - 1, -maxMetal, all + 1, 2*all + 1, 3*maxMetal + 1, math.MaxInt, math.MinInt, math.MinInt + 1} {
			if taken, rest, ok := impl.TakeMelt(m, grams); taken != (impl.Melt{}) || rest != (impl.Melt{}) || ok {
				t.Errorf("%d of %v: %v %v %v", grams, m, taken, rest, ok)
			}
		}
	}
}

// addCases tell how much tin must be added; -1 where no amount up to MaxMetal is enough.
var addCases = []struct {
	melt string
	low  int
	want int
}{
	{"80-5-15", 60, 2},
	{"80-5-15", 50, 0}, // exactly there
	{"80-5-15", 51, 1},
	{"80-5-15", 49, 0},
	{"80-5-15", 0, 0},
	{"80-5-15", 500, 90},
	{"80-5-15", 999, 94900},
	{"80-5-15", 1000, -1},
	{"95-0-0", 50, 5}, // exactly 5 of 100
	{"96-0-0", 50, 6},
	{"1-0-0", 0, 0},
	{"1-0-0", 1, 1},
	{"1-0-0", 500, 1},
	{"1-0-0", 501, 2},
	{"1-0-0", 1000, -1},
	{"0-0-1", 500, 1},
	{"2-1-0", 333, 0},
	{"2-1-0", 334, 1}, // it is there only if it is rounded up
	{"1-2-0", 667, 1},
	{"0-5-0", 1000, 0},
	{"0-5-0", 0, 0},
	{"0-1000000-0", 1000, 0},
	{"0-1000000-1", 1000, -1},
	{"1000000-0-0", 499, 996008},
	{"1000000-0-0", 500, 1000000},
	{"1000000-0-0", 501, -1},
	{"1000000-0-1", 500, -1}, // one gram more than MaxMetal
	{"1000000-1-1", 500, 1000000},
	{"999999-0-1", 500, 1000000},
	{"1002-998-0", 999, 1000000},
	{"1002-997-0", 999, -1},
	{"500-998-502", 999, 1000000},
	{"1001-0-0", 999, 999999},
	{"1000000-0-1000000", 333, 998501},
	{"1000000-0-1000000", 334, -1},
	{"1000000-1000000-1000000", 333, 0},
	{"1000000-1000000-1000000", 334, 3004},
	{"1000000-1000000-1000000", 500, 1000000}, // the grams to be added are bounded, not the melt
	{"1000000-999999-1000000", 500, -1},
}

func TestTinAndAntimonyToAdd(t *testing.T) {
	for _, c := range addCases {
		m := readMelt(c.melt)
		// The greatest share and the other metal have no influence.
		for _, b := range []impl.Blend{withTin(c.low, 1000), withTin(c.low, c.low), blendOf(c.low, 1000, 1000, 1000), blendOf(c.low, c.low, 0, 0)} {
			if n, ok := impl.TinToAdd(m, b); n != max(c.want, 0) || ok != (c.want >= 0) {
				t.Errorf("tin for %v, %v: %d %v", m, b, n, ok)
			}
			if n, ok := impl.AntimonyToAdd(exchanged(m), exchangedBlend(b)); n != max(c.want, 0) || ok != (c.want >= 0) {
				t.Errorf("antimony for %v, %v: %d %v", exchanged(m), exchangedBlend(b), n, ok)
			}
		}
	}
}

// leadCases tell how much lead must be added; -1 where no amount up to MaxMetal is enough.
var leadCases = []struct {
	melt                  string
	highTin, highAntimony int
	want                  int
}{
	{"80-5-15", 100, 200, 0},
	{"80-5-15", 50, 150, 0}, // exactly there
	{"80-5-15", 49, 150, 3},
	{"80-5-15", 50, 149, 1},
	{"80-5-15", 49, 149, 3},
	{"80-5-15", 49, 140, 8},
	{"80-5-15", 25, 150, 100}, // exactly 5 of 200
	{"80-5-15", 50, 100, 50},
	{"80-5-15", 1000, 1000, 0},
	{"80-5-15", 1, 1000, 4900},
	{"80-5-15", 0, 1000, -1},
	{"80-5-15", 1000, 0, -1},
	{"80-0-15", 0, 150, 5},
	{"80-0-15", 0, 1000, 0},
	{"80-0-0", 0, 0, 0},
	{"80-0-15", 0, 0, -1},
	{"0-0-1", 0, 1000, 0},
	{"0-1-0", 999, 0, 1},
	{"0-1-0", 500, 0, 1},
	{"0-1-0", 499, 0, 2},
	{"0-1-0", 1, 0, 999},
	{"0-1001-0", 1, 0, 999999},
	{"0-1002-0", 1, 0, -1},
	{"998-1002-0", 1, 0, 1000000},
	{"997-1002-0", 1, 0, -1}, // one gram more than MaxMetal
	{"1-2-0", 666, 0, 1},     // it is there only if it is rounded down
	{"1-2-0", 667, 0, 0},
	{"0-1000000-0", 500, 0, 1000000},
	{"0-1000000-0", 499, 0, -1},
	{"0-1000000-0", 1000, 0, 0},
	{"0-1000000-1", 500, 1, 999999},
	{"1000000-1000000-1000000", 333, 1000, 3004},
	{"1000000-1000000-1000000", 250, 250, 1000000}, // the grams to be added are bounded, not the melt
	{"1000000-1000000-1000000", 250, 249, -1},
	{"1000000-1000000-1000000", 249, 250, -1},
}

func TestLeadToAdd(t *testing.T) {
	for _, c := range leadCases {
		m := readMelt(c.melt)
		// The least shares have no influence.
		for _, b := range []impl.Blend{blendOf(0, c.highTin, 0, c.highAntimony), blendOf(c.highTin, c.highTin, c.highAntimony, c.highAntimony)} {
			if n, ok := impl.LeadToAdd(m, b); n != max(c.want, 0) || ok != (c.want >= 0) {
				t.Errorf("lead for %v, %v: %d %v", m, b, n, ok)
			}
			if n, ok := impl.LeadToAdd(exchanged(m), exchangedBlend(b)); n != max(c.want, 0) || ok != (c.want >= 0) {
				t.Errorf("lead for %v, %v, tin and antimony exchanged: %d %v", m, b, n, ok)
			}
		}
	}
}

// otherCases tell how often another melt must be joined; -1 where it does not help.
var otherCases = []struct {
	melt, other string
	b           impl.Blend
	want        int
}{
	{"80-5-15", "0-1-0", exampleBlend(), 2},
	{"80-5-15", "0-2-0", exampleBlend(), 1},
	{"80-5-15", "0-5-0", exampleBlend(), 1}, // 10 of 105
	{"80-5-15", "0-6-0", exampleBlend(), -1},
	{"80-5-15", "1-0-0", exampleBlend(), -1},
	{"80-5-15", "10-2-4", exampleBlend(), 1}, // 7 of 116
	{"80-5-15", "10-2-4", blendOf(65, 100, 100, 200), 2},
	{"80-7-15", "0-1-0", exampleBlend(), 0},
	{"80-7-15", "0-0-0", exampleBlend(), 0}, // it fits already
	{"80-7-15", "1000000-1000000-1000000", exampleBlend(), 0},
	{"1000000-80000-140000", "1000000-1000000-1000000", exampleBlend(), 0},
	{"80-5-15", "0-0-0", exampleBlend(), -1}, // nothing is joined
	{"0-0-0", "80-7-15", exampleBlend(), 1},  // nothing fits no blend
	{"0-0-0", "80-7-15", anyBlend(), 1},
	{"0-0-0", "80-5-15", exampleBlend(), -1},
	{"0-0-0", "0-0-0", anyBlend(), -1},
	{"0-0-0", "1000000-1000000-1000000", anyBlend(), 1},
	// The last time, and once more.
	{"200-0-0", "0-1-0", withTin(500, 1000), 200},
	{"201-0-0", "0-1-0", withTin(500, 1000), -1},
	{"199-0-0", "0-1-0", withTin(500, 1000), 199},
	{"1000000-0-0", "0-5000-0", withTin(500, 1000), 200},
	{"1000000-0-0", "0-4999-0", withTin(500, 1000), -1},
	{"0-200-0", "1-0-0", withTin(0, 500), 200},
	{"0-201-0", "1-0-0", withTin(0, 500), -1},
	{"0-0-200", "1-0-0", blendOf(0, 0, 0, 500), 200},
	// The sum is still a melt, or is none before it fits.
	{"999999-0-0", "1-250000-0", withTin(200, 1000), 1},
	{"1000000-0-0", "1-250001-0", withTin(200, 1000), -1},
	{"1000000-0-0", "0-250000-0", withTin(200, 1000), 1},
	{"500000-750000-0", "250000-125000-0", withTin(500, 500), 2},
	{"500000-750001-0", "250000-125000-0", withTin(500, 500), -1},
	{"500001-750001-0", "250000-125000-0", withTin(500, 500), -1}, // twice they would be 1000001 each
	{"0-1000000-500000", "1-0-1", blendOf(0, 1000, 0, 0), -1},
	{"0-1000000-0", "500000-0-500000", withTin(0, 333), -1},
	{"0-1000000-0", "500000-0-500000", withTin(0, 334), 2},
	{"0-1000000-1", "500000-0-500000", withTin(0, 334), -1}, // too much antimony
	{"0-999999-0", "500000-1-500000", withTin(0, 334), -1},  // too much tin, the second time
	{"0-999998-0", "500000-1-500000", withTin(0, 334), 2},
	// It fits for some times, the first of which counts, or is never met.
	{"100-0-0", "0-10-0", withTin(200, 300), 3},
	{"100-0-0", "0-10-0", withTin(240, 300), 4},
	{"100-0-0", "0-60-0", withTin(200, 300), -1},
	{"100-0-0", "0-60-0", withTin(200, 400), 1},
	{"100-0-0", "0-10-10", blendOf(200, 1000, 0, 1000), 4},
	{"100-0-0", "0-10-10", blendOf(200, 1000, 0, 199), -1},
	// Tin fits at once, antimony later.
	{"100-30-0", "10-0-20", blendOf(100, 300, 200, 500), 2},
	{"100-30-0", "10-0-20", blendOf(160, 300, 200, 500), -1},
}

func TestLeastOfOther(t *testing.T) {
	for _, c := range otherCases {
		m, other := readMelt(c.melt), readMelt(c.other)
		if n, ok := impl.LeastOfOther(m, other, c.b); n != max(c.want, 0) || ok != (c.want >= 0) {
			t.Errorf("%v to %v for %v: %d %v, want %d", other, m, c.b, n, ok, c.want)
		}
		if n, ok := impl.LeastOfOther(exchanged(m), exchanged(other), exchangedBlend(c.b)); n != max(c.want, 0) || ok != (c.want >= 0) {
			t.Errorf("%v to %v for %v, tin and antimony exchanged: %d %v, want %d", other, m, c.b, n, ok, c.want)
		}
	}
}

func TestAfterDross(t *testing.T) {
	cases := []struct {
		melt    string
		percent int
		want    string
		lost    int
	}{
		{"80-5-15", 0, "80-5-15", 0},
		{"80-5-15", 1, "79-4-14", 3}, // each one is rounded up
		{"80-5-15", 10, "72-4-13", 11},
		{"80-5-15", 20, "64-4-12", 20},
		{"80-5-15", 50, "40-2-7", 51},
		{"80-5-15", 99, "0-0-0", 100},
		{"80-5-15", 100, "0-0-0", 100},
		{"100-100-100", 1, "99-99-99", 3}, // exactly 1
		{"101-100-99", 1, "99-99-98", 4},
		{"100-200-300", 99, "1-2-3", 594},
		{"1-0-0", 0, "1-0-0", 0},
		{"1-0-0", 1, "0-0-0", 1},
		{"0-1-0", 1, "0-0-0", 1},
		{"0-0-1", 1, "0-0-0", 1},
		{"0-50-0", 3, "0-48-0", 2},
		{"1000000-1000000-1000000", 0, "1000000-1000000-1000000", 0},
		{"1000000-1000000-1000000", 1, "990000-990000-990000", 30000},
		{"1000000-1000000-1000000", 99, "10000-10000-10000", 2970000}, // more than MaxMetal
		{"1000000-1000000-1000000", 100, "0-0-0", 3000000},
		{"999999-999901-1", 1, "989999-989901-0", 20001},
	}
	for _, c := range cases {
		if m, n, ok := impl.AfterDross(readMelt(c.melt), c.percent); m != readMelt(c.want) || n != c.lost || !ok {
			t.Errorf("%s without %d percent: %v %d %v", c.melt, c.percent, m, n, ok)
		}
	}
	for _, m := range validMelts() {
		for _, percent := range []int{-1, -100, 101, 200, 1000, math.MaxInt, math.MinInt, math.MinInt + 1} {
			if left, n, ok := impl.AfterDross(m, percent); left != (impl.Melt{}) || n != 0 || ok {
				t.Errorf("%v without %d percent: %v %d %v", m, percent, left, n, ok)
			}
		}
	}
}

func TestMeltText(t *testing.T) {
	for _, text := range []string{"80-5-15", "0-0-0", "1-2-3", "1000000-1000000-1000000", "1000000-0-0", "0-1000000-0", "0-0-1000000", "10-100-1000", "999999-9-99"} {
		m := readMelt(text)
		if s, ok := impl.MeltText(m); s != text || !ok {
			t.Errorf("%v: %q %v", m, s, ok)
		}
		if x, ok := impl.ParseMelt(text); x != m || !ok {
			t.Errorf("%q: %v %v", text, x, ok)
		}
	}
}

func TestParseMeltOfInvalidTexts(t *testing.T) {
	texts := []string{
		"", "-", "--", "---", "1", "1-", "-1", "1-1", "1-1-", "-1-1", "1--1", "1-1-1-", "-1-1-1", "1--1-1", "1-1--1", "1-1-1-1", "0-0-0-0", "1-1-1-1-1", "--1-1-1",
		" 80-5-15", "80-5-15 ", "80 -5-15", "80- 5-15", "80-5- 15", "80 - 5 - 15", "80-5-15\n", "80-5-15\x00", "\x0080-5-15", "80-5-15;", "80-5-15\t",
		"80/5/15", "80,5,15", "80 5 15", "80-5/15", "80–5–15", "80_5_15",
		"0x1-1-1", "1e1-1-1", "1_0-1-1", "1.0-1-1", "a-1-1", "٣-1-1", "\xff-1-1",
		strings.Repeat("-", 100000), strings.Repeat("1-", 100000), strings.Repeat("1", 100000), "1-1-" + strings.Repeat("0", 100000) + "1", "1-1-" + strings.Repeat("9", 100000),
	}
	for part := range 3 {
		for _, entry := range []string{"", "00", "01", "05", "005", "+0", "+5", "-0", "-5", "--5", "1000001", "01000000", "10000000", "99999999999999999999", "18446744073709551616", "18446744073709551621", "-18446744073709551611", " ", "+", "5 ", " 5", "x"} {
			entries := []string{"80", "5", "15"}
			entries[part] = entry
			texts = append(texts, strings.Join(entries, "-"))
		}
	}
	for _, text := range texts {
		if m, ok := impl.ParseMelt(text); m != (impl.Melt{}) || ok {
			t.Errorf("%.40q: %v %v", text, m, ok)
		}
	}
}

// TestParseMeltOfChangedTexts checks that a text is read just if it is the text of the melt that is read.
func TestParseMeltOfChangedTexts(t *testing.T) {
	r := rand.New(rand.NewSource(13))
	parsed := 0
	for range 40000 {
		text := []byte([]string{"80-5-15", "1000000-0-999999", "0-0-0"}[r.Intn(3)])
		for range 1 + r.Intn(3) {
			at := r.Intn(len(text))
			switch b := "0123456789---- +/a"[r.Intn(18)]; r.Intn(3) {
			case 0:
				text[at] = b
			case 1:
				text = slices.Insert(text, at, b)
			case 2:
				text = slices.Delete(text, at, at+1)
			}
		}
		want, good := meltOfText(string(text))
		if good {
			parsed++
		}
		if m, ok := impl.ParseMelt(string(text)); m != want || ok != good {
			t.Fatalf("%q: %v %v", text, m, ok)
		}
	}
	if parsed < 1000 {
		t.Error("only", parsed, "texts were read")
	}
}

// meltOfText reads a melt digit by digit; it tells also whether the text is that of a melt.
func meltOfText(text string) (impl.Melt, bool) {
	entries := strings.Split(text, "-")
	if len(entries) != 3 {
		return impl.Melt{}, false
	}
	var grams [3]int
	for i, entry := range entries {
		if entry == "" || len(entry) > 7 || len(entry) > 1 && entry[0] == '0' {
			return impl.Melt{}, false
		}
		for _, digit := range []byte(entry) {
			if digit < '0' || digit > '9' {
				return impl.Melt{}, false
			}
			grams[i] = grams[i]*10 + int(digit-'0')
		}
		if grams[i] > maxMetal {
			return impl.Melt{}, false
		}
	}
	return meltOf(grams[0], grams[1], grams[2]), true
}

// randomMelt returns a melt whose grams are not greater than a number; some metals are left out.
func randomMelt(r *rand.Rand, most int) impl.Melt {
	var grams [3]int
	for i := range grams {
		if r.Intn(6) > 0 {
			grams[i] = r.Intn(most + 1)
		}
	}
	return meltOf(grams[0], grams[1], grams[2])
}

func randomMetal(r *rand.Rand) impl.Melt {
	return randomMelt(r, []int{2, 10, 100, 2000, maxMetal}[r.Intn(5)])
}

// randomBlend returns a blend with bounds that are near each other, at the ends, or anywhere.
func randomBlend(r *rand.Rand) impl.Blend {
	var bounds [4]int
	for i := 0; i < 4; i += 2 {
		switch r.Intn(4) {
		case 0:
			bounds[i], bounds[i+1] = 0, r.Intn(1001)
		case 1:
			bounds[i], bounds[i+1] = r.Intn(1001), 1000
		case 2:
			bounds[i] = r.Intn(1001)
			bounds[i+1] = min(bounds[i]+r.Intn(3), 1000)
		case 3:
			bounds[i] = r.Intn(1001)
			bounds[i+1] = bounds[i] + r.Intn(1001-bounds[i])
		}
	}
	return blendOf(bounds[0], bounds[1], bounds[2], bounds[3])
}

// isInBlend tells whether a melt has metal and both shares are within the bounds, without the help of the package.
func isInBlend(m impl.Melt, b impl.Blend) bool {
	all := sumOf(m)
	tin, antimony := 1000*m.Tin, 1000*m.Antimony
	return all > 0 && b.LowTin*all <= tin && tin <= b.HighTin*all && b.LowAntimony*all <= antimony && antimony <= b.HighAntimony*all
}

func TestRandomMelts(t *testing.T) {
	r := rand.New(rand.NewSource(14))
	for range 20000 {
		m := randomMetal(r)
		all, ok := impl.GramsOf(m)
		if all != sumOf(m) || !ok {
			t.Fatalf("%v: %d %v", m, all, ok)
		}
		text, ok := impl.MeltText(m)
		if x, good := impl.ParseMelt(text); x != m || !ok || !good {
			t.Fatalf("%v has the text %q, which is read as %v", m, text, x)
		}
		shares, ok := impl.SharesOf(m)
		if ok != (all > 0) || ok && len(shares) != 3 || !ok && len(shares) != 0 {
			t.Fatalf("%v: %v %v", m, shares, ok)
		}
		for i, share := range shares {
			if grams := gramsIn(m)[i]; share*all > 1000*grams || (share+1)*all <= 1000*grams {
				t.Fatalf("%v: %v", m, shares)
			}
		}
		percent := r.Intn(101)
		left, lost, ok := impl.AfterDross(m, percent)
		if sumOf(left)+lost != all || !ok {
			t.Fatalf("%v without %d percent: %v %d %v", m, percent, left, lost, ok)
		}
		for i, grams := range gramsIn(m) {
			if dross := grams - gramsIn(left)[i]; dross*100 < grams*percent || (dross-1)*100 >= grams*percent {
				t.Fatalf("%v without %d percent: %v", m, percent, left)
			}
		}
	}
}

// TestRandomTaken checks that taken and left grams are all grams, and that both parts are joined to the melt again.
func TestRandomTaken(t *testing.T) {
	r := rand.New(rand.NewSource(15))
	failed := 0
	for range 20000 {
		m := randomMetal(r)
		if r.Intn(3) == 0 {
			m.Lead = r.Intn(3)
		}
		all := sumOf(m)
		grams := r.Intn(all + 1)
		tin, antimony := 0, 0
		for tin < m.Tin && (tin+1)*all <= m.Tin*grams {
			tin += max(1, (m.Tin*grams-tin*all)/(2*all))
		}
		for antimony < m.Antimony && (antimony+1)*all <= m.Antimony*grams {
			antimony += max(1, (m.Antimony*grams-antimony*all)/(2*all))
		}
		want := meltOf(grams-tin-antimony, tin, antimony)
		taken, rest, ok := impl.TakeMelt(m, grams)
		if want.Lead > m.Lead {
			failed++
			if taken != (impl.Melt{}) || rest != (impl.Melt{}) || ok {
				t.Fatalf("%d of %v: %v %v %v", grams, m, taken, rest, ok)
			}
			continue
		}
		if taken != want || added(taken, rest) != m || !ok {
			t.Fatalf("%d of %v: %v %v %v, want %v", grams, m, taken, rest, ok, want)
		}
		if joined, good := impl.JoinMelts([]impl.Melt{taken, rest}); joined != m || !good {
			t.Fatalf("%d of %v: %v and %v are joined to %v %v", grams, m, taken, rest, joined, good)
		}
	}
	if failed < 500 {
		t.Error("only", failed, "times there was not so much lead")
	}
}

func TestRandomJoins(t *testing.T) {
	r := rand.New(rand.NewSource(16))
	joined, none := 0, 0
	for range 5000 {
		l := make([]impl.Melt, r.Intn(21))
		for i := range l {
			l[i] = randomMelt(r, []int{100, 120000, 300000, maxMetal}[r.Intn(4)])
		}
		var want impl.Melt
		for _, m := range l {
			want = added(want, m)
		}
		good := max(want.Lead, want.Tin, want.Antimony) <= maxMetal
		if good {
			joined++
		} else {
			none++
			want = impl.Melt{}
		}
		if m, ok := impl.JoinMelts(l); m != want || ok != good {
			t.Fatalf("%v: %v %v", l, m, ok)
		}
	}
	if joined < 500 || none < 500 {
		t.Error("too few lists:", joined, "joined,", none, "not")
	}
}

// checkAdded checks that an added amount is enough, that one gram less is not, and that there is one if MaxMetal is enough; it tells whether something had to be added.
func checkAdded(t *testing.T, name string, m impl.Melt, b impl.Blend, n int, ok bool, isEnough func(grams int) bool) bool {
	t.Helper()
	if want := sumOf(m) > 0 && isEnough(maxMetal); ok != want || n < 0 || n > maxMetal || !ok && n != 0 {
		t.Fatalf("%s for %v, %v: %d %v", name, m, b, n, ok)
	}
	if ok && (!isEnough(n) || n > 0 && isEnough(n-1)) {
		t.Fatalf("%s for %v, %v: %d", name, m, b, n)
	}
	return n > 0
}

func TestRandomAdded(t *testing.T) {
	r := rand.New(rand.NewSource(17))
	tin, antimony, lead, none := 0, 0, 0, 0
	count := func(sum *int, is bool) {
		if is {
			*sum++
		}
	}
	for range 20000 {
		m, b := randomMetal(r), randomBlend(r)
		all := sumOf(m)
		n, ok := impl.TinToAdd(m, b)
		count(&none, !ok)
		count(&tin, checkAdded(t, "tin", m, b, n, ok, func(grams int) bool {
			return 1000*(m.Tin+grams) >= b.LowTin*(all+grams)
		}))
		n, ok = impl.AntimonyToAdd(m, b)
		count(&none, !ok)
		count(&antimony, checkAdded(t, "antimony", m, b, n, ok, func(grams int) bool {
			return 1000*(m.Antimony+grams) >= b.LowAntimony*(all+grams)
		}))
		n, ok = impl.LeadToAdd(m, b)
		count(&none, !ok)
		count(&lead, checkAdded(t, "lead", m, b, n, ok, func(grams int) bool {
			return 1000*m.Tin <= b.HighTin*(all+grams) && 1000*m.Antimony <= b.HighAntimony*(all+grams)
		}))
	}
	if min(tin, antimony, lead, none) < 500 {
		t.Error("too few:", tin, antimony, lead, none)
	}
}

// TestRandomAddedFits checks with the functions themselves that each share is reached when what is told has been added.
func TestRandomAddedFits(t *testing.T) {
	r := rand.New(rand.NewSource(18))
	checked := 0
	for range 20000 {
		// With so little metal the sum is always a melt.
		m, b := randomMelt(r, 500), randomBlend(r)
		if n, ok := impl.TinToAdd(m, b); ok {
			x, _ := impl.JoinMelts([]impl.Melt{m, meltOf(0, n, 0)})
			if is, good := impl.DoesFit(x, blendOf(b.LowTin, 1000, 0, 1000)); !is || !good {
				t.Fatalf("%v with %d more of tin does not fit %v", m, n, b)
			}
			checked++
		}
		if n, ok := impl.AntimonyToAdd(m, b); ok {
			x, _ := impl.JoinMelts([]impl.Melt{m, meltOf(0, 0, n)})
			if is, good := impl.DoesFit(x, blendOf(0, 1000, b.LowAntimony, 1000)); !is || !good {
				t.Fatalf("%v with %d more of antimony does not fit %v", m, n, b)
			}
			checked++
		}
		if n, ok := impl.LeadToAdd(m, b); ok {
			x, _ := impl.JoinMelts([]impl.Melt{m, meltOf(n, 0, 0)})
			if is, good := impl.DoesFit(x, blendOf(0, b.HighTin, 0, b.HighAntimony)); !is || !good {
				t.Fatalf("%v with %d more of lead does not fit %v", m, n, b)
			}
			checked++
		}
	}
	if checked < 10000 {
		t.Error("only", checked)
	}
}

// timesOfOther finds how often another melt must be joined by multiplying it; -1 if it does not help.
func timesOfOther(m, other impl.Melt, b impl.Blend) int {
	for times := 0; times <= 200; times++ {
		sum := meltOf(m.Lead+times*other.Lead, m.Tin+times*other.Tin, m.Antimony+times*other.Antimony)
		if max(sum.Lead, sum.Tin, sum.Antimony) > maxMetal {
			return -1
		}
		if isInBlend(sum, b) {
			return times
		}
	}
	return -1
}

func TestRandomFits(t *testing.T) {
	r := rand.New(rand.NewSource(19))
	fits, once, often, none := 0, 0, 0, 0
	for range 20000 {
		m, other, b := randomMetal(r), randomMetal(r), randomBlend(r)
		is, ok := impl.DoesFit(m, b)
		if is != isInBlend(m, b) || ok != (sumOf(m) > 0) {
			t.Fatalf("%v for %v: %v %v", m, b, is, ok)
		}
		want := timesOfOther(m, other, b)
		n, ok := impl.LeastOfOther(m, other, b)
		if n != max(want, 0) || ok != (want >= 0) {
			t.Fatalf("%v to %v for %v: %d %v, want %d", other, m, b, n, ok, want)
		}
		switch {
		case !ok:
			none++
		case n == 0:
			fits++
		case n == 1:
			once++
		default:
			often++
		}
	}
	if min(fits, once, often, none) < 200 {
		t.Error("too few:", fits, once, often, none)
	}
}

// refuseToBlend checks that no function on a melt and a blend takes these.
func refuseToBlend(t *testing.T, m impl.Melt, b impl.Blend) {
	t.Helper()
	if is, ok := impl.DoesFit(m, b); is || ok {
		t.Errorf("%v for %v: %v %v", m, b, is, ok)
	}
	if n, ok := impl.TinToAdd(m, b); n != 0 || ok {
		t.Errorf("tin for %v, %v: %d %v", m, b, n, ok)
	}
	if n, ok := impl.AntimonyToAdd(m, b); n != 0 || ok {
		t.Errorf("antimony for %v, %v: %d %v", m, b, n, ok)
	}
	if n, ok := impl.LeadToAdd(m, b); n != 0 || ok {
		t.Errorf("lead for %v, %v: %d %v", m, b, n, ok)
	}
}

// refuseOther checks that LeastOfOther does not take these.
func refuseOther(t *testing.T, m, other impl.Melt, b impl.Blend) {
	t.Helper()
	if n, ok := impl.LeastOfOther(m, other, b); n != 0 || ok {
		t.Errorf("%v to %v for %v: %d %v", other, m, b, n, ok)
	}
}

func TestInvalidMelts(t *testing.T) {
	for _, m := range invalidMelts() {
		for _, b := range append(validBlends(), invalidBlends()...) {
			refuseToBlend(t, m, b)
			// Also where the other one, or the valid one, would fit already.
			for _, other := range append(validMelts(), meltOf(80, 7, 15), m) {
				refuseOther(t, m, other, b)
				refuseOther(t, other, m, b)
			}
		}
		if n, ok := impl.GramsOf(m); n != 0 || ok {
			t.Errorf("grams of %v: %d %v", m, n, ok)
		}
		if l, ok := impl.SharesOf(m); len(l) != 0 || ok {
			t.Errorf("shares of %v: %v %v", m, l, ok)
		}
		for _, grams := range []int{0, 1, 100, maxMetal, sumOf(m), -1, math.MinInt, math.MaxInt} {
			if taken, rest, ok := impl.TakeMelt(m, grams); taken != (impl.Melt{}) || rest != (impl.Melt{}) || ok {
				t.Errorf("%d of %v: %v %v %v", grams, m, taken, rest, ok)
			}
		}
		for _, percent := range []int{0, 1, 50, 100, -1, 101} {
			if left, n, ok := impl.AfterDross(m, percent); left != (impl.Melt{}) || n != 0 || ok {
				t.Errorf("%v without %d percent: %v %d %v", m, percent, left, n, ok)
			}
		}
		if s, ok := impl.MeltText(m); s != "" || ok {
			t.Errorf("text of %v: %q %v", m, s, ok)
		}
	}
}

func TestInvalidBlends(t *testing.T) {
	for _, b := range invalidBlends() {
		for _, m := range append(validMelts(), meltOf(80, 7, 15)) {
			refuseToBlend(t, m, b)
			refuseOther(t, m, exampleMelt(), b)
			refuseOther(t, m, impl.Melt{}, b)
			refuseOther(t, exampleMelt(), m, b)
		}
	}
}

// TestMeltsStay calls JoinMelts with lists that have spare capacity, of which it must neither take nor change a melt.
func TestMeltsStay(t *testing.T) {
	lists := [][]impl.Melt{nil, {}, {exampleMelt()}, {exampleMelt(), fullMelt()}, {fullMelt()}, manyMelts(19), manyMelts(20), manyMelts(21), {meltOf(-1, 1, 1)}, {exampleMelt(), meltOf(1, maxMetal+1, 1)}}
	for _, given := range lists {
		for _, spare := range []impl.Melt{{}, exampleMelt(), fullMelt(), meltOf(-1, -1, -1)} {
			l, stay := guarded(t, "melts", given, spare)
			want, good := impl.JoinMelts(slices.Clip(slices.Clone(given)))
			if m, ok := impl.JoinMelts(l); m != want || ok != good {
				t.Errorf("%.200v: %v %v, without spare capacity %v %v", given, m, ok, want, good)
			}
			stay()
		}
	}
}

// TestMetalResultsAreNew checks that the same call gives the same result when an earlier one has been overwritten.
func TestMetalResultsAreNew(t *testing.T) {
	for range 2 {
		shares, _ := impl.SharesOf(exampleMelt())
		again, _ := impl.SharesOf(exampleMelt())
		if !slices.Equal(shares, []int{800, 50, 150}) || !slices.Equal(again, shares) {
			t.Error(shares, again)
		}
		if shareMemory(shares, again) {
			t.Error("the shares of two calls share memory")
		}
		overwrite(shares, true)
		overwrite(again, true)
	}
}
