package tests

import (
	"math"
	"math/rand"
	"slices"
	"strconv"
	"strings"
	"testing"

	"loop.example/g01054/impl"
)

// readSlips reads slips like 3x12, separated by blanks.
func readSlips(text string) []impl.Slip {
	var l []impl.Slip
	for _, entry := range strings.Fields(text) {
		n := readNumbers(entry, "x")
		l = append(l, impl.Slip{Length: n[1], Count: n[0]})
	}
	return l
}

func exampleSlips() []impl.Slip { return readSlips("3x12 2x30 1x40") }

const (
	longSlips = "20x193 20x194 20x195 20x196 20x197 20x198 20x199 20x200"
	manySlips = "20x1 20x2 20x3 20x5 20x8 20x13 20x21 20x34"
	someSlips = "1x1 2x2 3x4 1x8 0x16 2x32 1x64 1x128"
	noPieces  = "0x1 0x2 0x30 0x40 0x50 0x60 0x70 0x200"
)

func validSlipLists() [][]impl.Slip {
	lists := [][]impl.Slip{nil, {}, exampleSlips()}
	for _, text := range []string{
		"0x1", "1x1", "20x1", "0x200", "1x200", "20x200", "7x100", "20x20", "0x1 0x200", "20x1 20x200", "20x199 20x200", "1x1 1x2",
		"9x1 2x25 1x40", "2x6 3x10 4x15", longSlips, manySlips, someSlips, noPieces, "1x10 1x20 1x30 1x40 1x50 1x60 1x70 1x80",
	} {
		lists = append(lists, readSlips(text))
	}
	return lists
}

func invalidSlipLists() [][]impl.Slip {
	lists := [][]impl.Slip{slices.Repeat(readSlips("1x12"), 1000), slices.Repeat(readSlips("0x0"), 9), make([]impl.Slip, 1), make([]impl.Slip, 8)}
	for _, text := range []string{
		"1x0", "1x201", "1x-1", "1x-200", "0x0", "0x201", "1x0 1x12", "1x-12 1x12", "1x12 1x201", "1x12 1x201 1x202", // Lengths outside
		"21x12", "-1x12", "-20x12", "21x1", "-1x200", "3x12 21x30", "3x12 -1x30", "21x12 2x30", "-1x12 2x30", "3x12 2x30 21x40", "3x12 2x30 -1x40", // Counts outside
		"1x12 1x12", "0x12 0x12", "3x12 2x30 1x30", "3x12 3x12 2x30", "1x200 1x200", "1x1 1x1", // equal
		"1x30 1x12", "3x12 1x40 2x30", "2x30 3x12 1x40", "0x200 0x1", "1x40 2x30 3x12", "1x2 1x1", // decreasing
		"1x1 1x2 1x3 1x4 1x5 1x6 1x7 1x8 1x9", "0x1 0x2 0x3 0x4 0x5 0x6 0x7 0x8 0x200", longSlips + " 1x201", "1x192 " + longSlips, // one more than MaxSlips
	} {
		lists = append(lists, readSlips(text))
	}
	for _, n := range []int{math.MinInt, math.MinInt + 1, math.MaxInt, 1000, 1 << 32} {
		lists = append(lists, []impl.Slip{{Length: n, Count: 1}}, []impl.Slip{{Length: 12, Count: n}}, []impl.Slip{{Length: n, Count: n}})
		lists = append(lists, []impl.Slip{{Length: 12, Count: 3}, {Length: n, Count: 1}}, []impl.Slip{{Length: 12, Count: 3}, {Length: 30, Count: n}})
		lists = append(lists, []impl.Slip{{Length: n, Count: 1}, {Length: 12, Count: 3}}, []impl.Slip{{Length: 12, Count: n}, {Length: 30, Count: 2}})
	}
	return lists
}

var (
	validRuleLengths   = []int{1, 2, 12, 54, 70, 199, 200, 201, 399, 400}
	invalidRuleLengths = []int{0, -1, -2, -400, math.MinInt, math.MinInt + 1, 401, 402, 800, 1000, 1 << 32, math.MaxInt}
)

// allPieces returns the counts of all pieces of a stock.
func allPieces(l []impl.Slip) []int {
	all := make([]int, len(l))
	for i, slip := range l {
		all[i] = slip.Count
	}
	return all
}

func slipLengths(l []impl.Slip) []int {
	lengths := make([]int, len(l))
	for i, slip := range l {
		lengths[i] = slip.Length
	}
	return lengths
}

// invalidSlipCounts returns what are no counts of a stock.
func invalidSlipCounts(l []impl.Slip) [][]int {
	n, all := len(l), allPieces(l)
	lists := [][]int{counts(n+1, 0), counts(1000, 0), append(slices.Clone(all), 0), append(slices.Clone(all), 1), append([]int{0}, all...)}
	if n > 0 {
		lists = append(lists, nil, []int{}, counts(n-1, 0), all[:n-1], all[1:])
	}
	for i, count := range all {
		for _, wrong := range []int{-1, -2, count + 1, count + 2, 21, 1000, math.MinInt, math.MaxInt} {
			lists = append(lists, withCount(counts(n, 0), i, wrong), withCount(all, i, wrong))
		}
	}
	return lists
}

func TestStockConstants(t *testing.T) {
	if impl.MaxSlips != 8 || impl.MaxRule != 400 {
		t.Error(impl.MaxSlips, impl.MaxRule)
	}
}

func TestIsStock(t *testing.T) {
	for _, l := range validSlipLists() {
		if !impl.IsStock(l) {
			t.Errorf("%v is a stock", l)
		}
	}
	for _, l := range invalidSlipLists() {
		if impl.IsStock(l) {
			t.Errorf("%.100v is no stock", l)
		}
	}
	for length := -5; length < 210; length++ {
		slip := impl.Slip{Length: length, Count: 3}
		if impl.IsStock([]impl.Slip{slip}) != (length >= 1 && length <= 200) {
			t.Error("length", length)
		}
		if impl.IsStock(append(readSlips("1x20"), slip)) != (length > 20 && length <= 200) || impl.IsStock(append([]impl.Slip{slip}, readSlips("1x20")...)) != (length >= 1 && length < 20) {
			t.Error("length with 20", length)
		}
	}
	for count := -5; count < 30; count++ {
		valid := count >= 0 && count <= 20
		if impl.IsStock([]impl.Slip{{Length: 12, Count: count}}) != valid || impl.IsStock([]impl.Slip{{Length: 12}, {Length: 30, Count: count}, {Length: 40}}) != valid {
			t.Error("count", count)
		}
	}
	for n := range 20 {
		var l []impl.Slip
		for i := range n {
			l = append(l, impl.Slip{Length: i + 1, Count: i})
		}
		if impl.IsStock(l) != (n <= 8) {
			t.Error("slips", n)
		}
	}
}

func TestStockLength(t *testing.T) {
	cases := []struct {
		stock string
		want  int
	}{
		{"", 0},
		{"0x1", 0},
		{"1x1", 1},
		{"20x1", 20},
		{"0x200", 0},
		{"1x200", 200},
		{"20x200", 4000},
		{"3x12 2x30 1x40", 136},
		{"0x12 2x30 0x40", 60},
		{"20x1 20x200", 4020},
		{noPieces, 0},
		{someSlips, 281},
		{manySlips, 1740},
		{longSlips, 31440},
	}
	for _, c := range cases {
		if n, ok := impl.StockLength(readSlips(c.stock)); n != c.want || !ok {
			t.Errorf("length of %s: %d %v, want %d", c.stock, n, ok, c.want)
		}
	}
}

// ruleCases tell how a rule is made of a stock, or not at all, and how much longer it would have to be so that it could be made, or -1.
var ruleCases = []struct {
	stock   string
	length  int
	rule    string
	missing int
}{
	{"3x12 2x30 1x40", 54, "2 1 0", 0},
	{"3x12 2x30 1x40", 70, "0 1 1", 0},
	{"3x12 2x30 1x40", 50, "", 2}, // 12 40
	{"3x12 2x30 1x40", 1, "", 11},
	{"3x12 2x30 1x40", 11, "", 1},
	{"3x12 2x30 1x40", 12, "1 0 0", 0},
	{"3x12 2x30 1x40", 13, "", 11},
	{"3x12 2x30 1x40", 30, "0 1 0", 0},
	{"3x12 2x30 1x40", 36, "3 0 0", 0},
	{"3x12 2x30 1x40", 37, "", 3},
	{"3x12 2x30 1x40", 48, "", 4},
	{"3x12 2x30 1x40", 60, "0 2 0", 0},
	{"3x12 2x30 1x40", 136, "3 2 1", 0}, // all pieces
	{"3x12 2x30 1x40", 135, "", 1},
	{"3x12 2x30 1x40", 137, "", -1},
	{"3x12 2x30 1x40", 400, "", -1},
	// No slip, and no piece.
	{"", 1, "", -1},
	{"", 400, "", -1},
	{noPieces, 1, "", -1},
	{noPieces, 200, "", -1},
	{noPieces, 400, "", -1},
	// One slip.
	{"1x1", 1, "1", 0},
	{"1x1", 2, "", -1},
	{"20x1", 1, "1", 0},
	{"20x1", 20, "20", 0},
	{"20x1", 21, "", -1},
	{"1x200", 1, "", 199},
	{"1x200", 199, "", 1},
	{"1x200", 200, "1", 0},
	{"1x200", 201, "", -1},
	{"1x200", 400, "", -1},
	{"2x200", 201, "", 199},
	{"2x200", 399, "", 1},
	{"2x200", 400, "2", 0},
	{"20x200", 400, "2", 0},
	{"20x200", 1, "", 199},
	{"20x150", 301, "", -1}, // 450 is more than MaxRule
	{"20x150", 300, "2", 0},
	{"20x150", 299, "", 1},
	{"20x20", 400, "20", 0},
	{"19x20", 400, "", -1},
	{"19x20", 380, "19", 0},
	{"20x20", 381, "", 19},
	{"20x19", 381, "", -1},
	{"20x134", 400, "", -1},
	{"20x133", 399, "3", 0},
	{"20x133", 400, "", -1},
	// A slip of which no piece is left.
	{"3x12 0x30 1x40", 54, "", 10},
	{"3x12 0x30 1x40", 64, "2 0 1", 0},
	{"0x12 2x30 1x40", 54, "", 6},
	{"0x12 2x30 1x40", 70, "0 1 1", 0},
	{"3x12 2x30 0x40", 70, "", 2},
	{"3x12 2x30 0x40", 66, "3 1 0", 0},
	// Fewer pieces than with the longest slip.
	{"9x1 2x25 1x40", 50, "0 2 0", 0},
	{"10x1 2x25 1x40", 50, "0 2 0", 0},
	{"10x1 1x25 1x40", 50, "10 0 1", 0},
	{"9x1 1x25 1x40", 50, "", 15},
	{"20x1 3x20 1x50", 60, "0 3 0", 0},
	{"20x1 2x20 1x50", 60, "10 0 1", 0},
	{"5x2 2x9 1x14", 18, "0 2 0", 0},
	{"5x2 1x9 1x14", 18, "2 0 1", 0},
	// Several ways with as many pieces.
	{"2x10 2x20 2x30", 40, "1 0 1", 0}, // 30 10 and 20 20
	{"0x10 2x20 2x30", 40, "0 2 0", 0},
	{"1x10 2x20 0x30", 40, "0 2 0", 0},
	{"2x10 1x20 0x30", 40, "2 1 0", 0},
	{"2x10 2x20 2x30 1x40", 60, "0 1 0 1", 0},
	{"2x10 2x20 2x30 0x40", 60, "0 0 2 0", 0},
	{"2x10 2x20 1x30 1x40", 90, "0 1 1 1", 0},
	{"2x10 2x20 3x30 1x40 1x50", 90, "0 0 0 1 1", 0},
	{"2x10 2x20 3x30 0x40 1x50", 90, "1 0 1 0 1", 0}, // 50 30 10, 50 20 20 and 30 30 30
	{"0x10 2x20 3x30 0x40 1x50", 90, "0 2 0 0 1", 0}, // the most of the longest slip, though the next one is less long
	{"0x10 2x20 3x30 0x40 0x50", 90, "0 0 3 0 0", 0},
	{"1x1 3x2 1x3", 4, "1 0 1", 0},
	{"2x1 2x5 2x6 2x10", 11, "1 0 0 1", 0},
	{"0x1 2x5 2x6 2x10", 11, "0 1 1 0", 0},
	{"5x1 5x2 5x3 5x4", 12, "0 0 0 3", 0},
	{"5x1 5x2 5x3 2x4", 12, "1 0 1 2", 0}, // 4 4 3 1, 4 4 2 2, 4 3 3 2 and 3 3 3 3
	{"0x1 5x2 5x3 2x4", 12, "0 2 0 2", 0},
	{"0x1 1x2 5x3 2x4", 12, "0 1 2 1", 0},
	{"0x1 0x2 5x3 2x4", 12, "0 0 4 0", 0},
	// MaxSlips slips.
	{longSlips, 1, "", 192},
	{longSlips, 193, "1 0 0 0 0 0 0 0", 0},
	{longSlips, 200, "0 0 0 0 0 0 0 1", 0},
	{longSlips, 201, "", 185},
	{longSlips, 385, "", 1},
	{longSlips, 386, "2 0 0 0 0 0 0 0", 0},
	{longSlips, 392, "1 0 0 0 0 0 1 0", 0},
	{longSlips, 399, "0 0 0 0 0 0 1 1", 0},
	{longSlips, 400, "0 0 0 0 0 0 0 2", 0},
	{manySlips, 1, "1 0 0 0 0 0 0 0", 0},
	{manySlips, 16, "0 0 1 0 0 1 0 0", 0}, // 13 3 and 8 8
	{manySlips, 26, "0 0 0 1 0 0 1 0", 0}, // 21 5 and 13 13
	{manySlips, 31, "0 1 0 0 1 0 1 0", 0},
	{manySlips, 200, "1 0 0 0 1 0 1 5", 0},
	{manySlips, 255, "1 0 1 0 0 1 0 7", 0},
	{manySlips, 399, "1 0 1 0 0 0 1 11", 0},
	{manySlips, 400, "0 0 0 1 0 0 1 11", 0},
	{someSlips, 16, "0 0 2 1 0 0 0 0", 0},
	{someSlips, 26, "", 6},
	{someSlips, 127, "", 1},
	{someSlips, 128, "0 0 0 0 0 0 0 1", 0},
	{someSlips, 201, "1 0 0 1 0 0 1 1", 0},
	{someSlips, 280, "0 2 3 1 0 2 1 1", 0},
	{someSlips, 281, "1 2 3 1 0 2 1 1", 0}, // all pieces
	{someSlips, 282, "", -1},
}

func TestRules(t *testing.T) {
	for _, c := range ruleCases {
		l, rule := readSlips(c.stock), readWidths(c.rule)
		made := c.rule != ""
		if x, ok := impl.RuleOf(l, c.length); !slices.Equal(x, rule) || ok != made {
			t.Errorf("rule of %d of %s: %v %v, want %v", c.length, c.stock, x, ok, rule)
		}
		if n, ok := impl.MissingFor(l, c.length); n != max(c.missing, 0) || ok != (c.missing >= 0) {
			t.Errorf("missing for %d of %s: %d %v, want %d", c.length, c.stock, n, ok, c.missing)
		}
		if x, ok := impl.RulesOf(l, []int{c.length}); ok != made || made && (len(x) != 1 || !slices.Equal(x[0], rule)) || !made && len(x) != 0 {
			t.Errorf("rules of %d of %s: %v %v, want %v", c.length, c.stock, x, ok, rule)
		}
	}
}

func TestLengthsUpTo(t *testing.T) {
	cases := []struct {
		stock string
		most  int
		want  string
	}{
		{"", 0, ""},
		{"", 400, ""},
		{noPieces, 0, ""},
		{noPieces, 400, ""},
		{"3x12 2x30 1x40", 0, ""},
		{"3x12 2x30 1x40", 11, ""},
		{"3x12 2x30 1x40", 12, "12"},
		{"3x12 2x30 1x40", 13, "12"},
		{"3x12 2x30 1x40", 29, "12 24"},
		{"3x12 2x30 1x40", 54, "12 24 30 36 40 42 52 54"},
		{"3x12 2x30 1x40", 400, "12 24 30 36 40 42 52 54 60 64 66 70 72 76 82 84 94 96 100 106 112 124 136"},
		{"3x12 0x30 1x40", 400, "12 24 36 40 52 64 76"},
		{"1x1", 400, "1"},
		{"2x1", 400, "1 2"},
		{"2x1", 1, "1"},
		{"2x1", 0, ""},
		{"20x200", 199, ""},
		{"20x200", 200, "200"},
		{"20x200", 399, "200"},
		{"20x200", 400, "200 400"},
		{"1x200", 400, "200"},
		{"20x150", 400, "150 300"},
		{"1x1 1x2 1x200", 400, "1 2 3 200 201 202 203"},
		{"1x1 1x2 2x199", 400, "1 2 3 199 200 201 202 398 399 400"},
		{longSlips, 202, "193 194 195 196 197 198 199 200"},
		{longSlips, 400, "193 194 195 196 197 198 199 200 386 387 388 389 390 391 392 393 394 395 396 397 398 399 400"},
	}
	for _, c := range cases {
		if l, ok := impl.LengthsUpTo(readSlips(c.stock), c.most); !slices.Equal(l, readWidths(c.want)) || !ok {
			t.Errorf("lengths of %s up to %d: %v %v, want %s", c.stock, c.most, l, ok, c.want)
		}
	}
	for most := range 401 {
		if l, ok := impl.LengthsUpTo(readSlips(manySlips), most); !slices.Equal(l, upTo(most + 1)[1:]) || !ok {
			t.Errorf("lengths up to %d: %v %v", most, l, ok)
		}
	}
}

func TestPiecesAndRest(t *testing.T) {
	cases := []struct {
		stock, counts  string
		pieces, length int
		rest           string
	}{
		{"", "", 0, 0, ""},
		{"3x12 2x30 1x40", "0 0 0", 0, 0, "3x12 2x30 1x40"},
		{"3x12 2x30 1x40", "2 1 0", 3, 54, "1x12 1x30 1x40"},
		{"3x12 2x30 1x40", "0 1 1", 2, 70, "3x12 1x30 0x40"},
		{"3x12 2x30 1x40", "3 2 1", 6, 136, "0x12 0x30 0x40"},
		{"3x12 2x30 1x40", "3 0 0", 3, 36, "0x12 2x30 1x40"},
		{"3x12 0x30 1x40", "1 0 1", 2, 52, "2x12 0x30 0x40"},
		{"0x1", "0", 0, 0, "0x1"},
		{"1x1", "1", 1, 1, "0x1"},
		{"20x200", "20", 20, 4000, "0x200"},
		{"20x200", "19", 19, 3800, "1x200"},
		{"20x200", "0", 0, 0, "20x200"},
		{noPieces, "0 0 0 0 0 0 0 0", 0, 0, noPieces},
		{someSlips, "1 2 3 1 0 2 1 1", 11, 281, "0x1 0x2 0x4 0x8 0x16 0x32 0x64 0x128"},
		{someSlips, "0 1 2 0 0 1 1 0", 5, 106, "1x1 1x2 1x4 1x8 0x16 1x32 0x64 1x128"},
		{longSlips, "20 20 20 20 20 20 20 20", 160, 31440, "0x193 0x194 0x195 0x196 0x197 0x198 0x199 0x200"}, // longer than any rule
		{longSlips, "0 0 0 3 0 0 0 0", 3, 588, "20x193 20x194 20x195 17x196 20x197 20x198 20x199 20x200"},
	}
	for _, c := range cases {
		l, x := readSlips(c.stock), readWidths(c.counts)
		if n, length, ok := impl.PiecesOf(l, x); n != c.pieces || length != c.length || !ok {
			t.Errorf("pieces of %s of %s: %d %d %v, want %d %d", c.counts, c.stock, n, length, ok, c.pieces, c.length)
		}
		if rest, ok := impl.RestOfStock(l, x); !slices.Equal(rest, readSlips(c.rest)) || !ok {
			t.Errorf("rest of %s without %s: %v %v, want %s", c.stock, c.counts, rest, ok, c.rest)
		}
	}
}

// readCountLists reads counts, separated by blanks, of several rules, separated by strokes.
func readCountLists(text string) [][]int {
	if text == "" {
		return nil
	}
	var lists [][]int
	for _, part := range strings.Split(text, "/") {
		lists = append(lists, readWidths(part))
	}
	return lists
}

func equalLists(a, b [][]int) bool { return slices.EqualFunc(a, b, slices.Equal[[]int]) }

func TestRulesOf(t *testing.T) {
	cases := []struct{ stock, lengths, want string }{
		{"3x12 2x30 1x40", "54", "2 1 0"},
		{"3x12 2x30 1x40", "54 70", "2 1 0/0 1 1"},
		{"3x12 2x30 1x40", "70 54", "0 1 1/2 1 0"},
		{"3x12 2x30 1x40", "70 54 12", "0 1 1/2 1 0/1 0 0"},
		{"3x12 2x30 1x40", "70 54 12 12", ""},
		{"3x12 2x30 1x40", "12 12 12 30 30 40", "1 0 0/1 0 0/1 0 0/0 1 0/0 1 0/0 0 1"}, // all pieces
		{"3x12 2x30 1x40", "40 30 30 12 12 12", "0 0 1/0 1 0/0 1 0/1 0 0/1 0 0/1 0 0"},
		{"3x12 2x30 1x40", "40 40", ""}, // what the one before left is too little
		{"3x12 2x30 1x40", "70 70", ""},
		{"3x12 2x30 1x40", "36 24", ""},
		{"3x12 2x30 1x40", "24 36", ""},
		{"3x12 2x30 1x40", "24 12 12", ""},
		{"3x12 2x30 1x40", "50 12", ""},
		{"3x12 2x30 1x40", "12 50", ""},
		{"3x12 2x30 1x40", "136 12", ""},
		{"3x12 2x30 1x40", "12 136", ""},
		{"3x12 2x30 1x40", "12 13 12", ""},
		// The fewest pieces for the first leave other ones for the next.
		{"4x10 1x20 1x30", "30 30 30", "0 0 1/1 1 0/3 0 0"},
		{"4x10 1x20 1x30", "30 30 30 10", ""},
		{"2x10 2x20 2x30", "40 40 40", "1 0 1/1 0 1/0 2 0"},
		{"2x10 2x20 2x30", "40 40 40 10", ""},
		{"2x10 2x20 2x30", "60 40 20", "0 0 2/0 2 0/2 0 0"},
		{"2x10 2x20 2x30", "20 40 60", "0 1 0/1 0 1/1 1 1"},
		{"2x5 1x10", "10 10", "0 1/2 0"},
		{"2x5 1x10", "10 10 5", ""},
		{"2x5 1x10", "5 10 5", "1 0/0 1/1 0"},
		{"1x20 2x30 1x40", "60 60", "1 0 1/0 2 0"},
		{"1x10 3x20 1x30", "40 40", "1 0 1/0 2 0"},
		// Other pieces for the first would leave enough.
		{"1x10 2x20 1x30", "40 30", ""},
		{"1x10 2x20 1x30", "40 30 10", ""},
		{"1x10 2x20 1x30", "30 40 10", "0 0 1/0 2 0/1 0 0"},
		{"3x20 1x30 1x60", "60 60", "0 0 1/3 0 0"},
		{"3x20 1x30 1x60", "60 90 20", ""},
		// With no piece left of some slips.
		{"0x12 2x30 0x40", "30 30", "0 1 0/0 1 0"},
		{"0x12 2x30 0x40", "30 30 12", ""},
		{noPieces, "1", ""},
		{"20x200", "400 400 400 400 400 400", "2/2/2/2/2/2"},
		{"11x200", "400 400 400 400 400 400", ""},
		{"12x200", "400 400 400 400 400 400", "2/2/2/2/2/2"},
		{"20x1", "1 2 3 4 5 5", "1/2/3/4/5/5"},
		{"20x1", "1 2 3 4 5 6", ""},
		{"20x1", "20", "20"},
		{"20x1", "20 1", ""},
		{"6x1", "1 1 1 1 1 1", "1/1/1/1/1/1"},
		{"5x1", "1 1 1 1 1 1", ""},
		{"1x199 1x200", "399 1", ""},
		{manySlips, "400 400 400 400 400", ""},
		{manySlips, "400 400 400 400", "0 0 0 1 0 0 1 11/0 1 0 0 1 0 4 9/0 1 0 1 0 6 15 0/1 0 0 13 19 14 0 0"},
		{"", "1", ""},
		{"", "400 1", ""},
	}
	for _, c := range cases {
		if rules, ok := impl.RulesOf(readSlips(c.stock), readWidths(c.lengths)); !equalLists(rules, readCountLists(c.want)) || ok != (c.want != "") {
			t.Errorf("rules %s of %s: %v %v, want %s", c.lengths, c.stock, rules, ok, c.want)
		}
	}
	// No rule can be made of any stock.
	for _, l := range validSlipLists() {
		for _, lengths := range [][]int{nil, {}} {
			if rules, ok := impl.RulesOf(l, lengths); len(rules) != 0 || !ok {
				t.Errorf("no rules of %v: %v %v", l, rules, ok)
			}
		}
	}
}

func TestFrameOf(t *testing.T) {
	cases := []struct {
		stock              string
		wide, high, corner int
		want               string
	}{
		{"4x12 2x30", 42, 12, 0, "1 1/1 1/1 0/1 0"},
		{"4x12 2x30", 12, 42, 0, "1 0/1 0/1 1/1 1"},
		{"3x12 2x30", 42, 12, 0, ""},
		{"3x12 2x30", 12, 42, 0, ""},
		{"4x12 2x30", 52, 22, 5, "1 1/1 1/1 0/1 0"},
		{"4x12 2x30", 142, 112, 50, "1 1/1 1/1 0/1 0"},
		{"4x12 2x30", 142, 112, 51, ""},
		{"4x12 2x30", 40, 10, -1, ""},
		{"4x12 2x30", 43, 13, 0, ""},
		{"2x12 2x30", 42, 60, 15, "1 0/1 0/0 1/0 1"},
		{"2x12 2x30", 60, 42, 15, "0 1/0 1/1 0/1 0"},
		{"20x1", 1, 1, 0, "1/1/1/1"},
		{"4x1", 1, 1, 0, "1/1/1/1"},
		{"3x1", 1, 1, 0, ""},
		{"4x1", 101, 101, 50, "1/1/1/1"},
		{"4x1", 101, 101, 49, ""},
		{"10x1", 102, 103, 50, "2/2/3/3"},
		{"10x1", 103, 102, 50, "3/3/2/2"},
		{"9x1", 103, 102, 50, ""},
		{"20x1", 100, 101, 50, ""},
		{"20x1", 101, 100, 50, ""},
		{"20x1", 0, 1, 0, ""},
		{"20x1", 1, 0, 0, ""},
		{"20x1", 2, 3, 1, ""},
		{"20x1", 3, 2, 1, ""},
		{"20x1", 3, 3, 1, "1/1/1/1"},
		{"20x1", 1, 3, 1, ""},
		{"8x200", 400, 400, 0, "2/2/2/2"},
		{"7x200", 400, 400, 0, ""},
		{"8x150", 400, 400, 50, "2/2/2/2"},
		{"8x199", 400, 400, 1, "2/2/2/2"},
		{"20x200", 401, 400, 0, ""},
		{"20x200", 400, 401, 0, ""},
		{"20x199", 401, 400, 1, ""},
		{"20x150", 400, 500, 50, ""},
		{"20x150", 500, 400, 50, ""},
		{"20x200", 402, 402, 1, ""},
		{"5x100 2x200", 400, 100, 0, ""},
		{"6x100 2x200", 400, 100, 0, "0 2/4 0/1 0/1 0"},
		{"6x100 3x200", 400, 100, 0, "0 2/2 1/1 0/1 0"},
		{"5x100 2x200", 100, 400, 0, ""},
		{"6x100 2x200", 100, 400, 0, "1 0/1 0/0 2/4 0"},
		{"6x100 3x200", 100, 400, 0, "1 0/1 0/0 2/2 1"},
		{"", 1, 1, 0, ""},
		{noPieces, 200, 200, 0, ""},
		{"4x10 1x20 1x30", 30, 10, 0, "0 0 1/1 1 0/1 0 0/1 0 0"},
		{"4x10 1x20 1x30", 30, 20, 0, ""},
		{"2x10 2x20 2x30", 40, 20, 0, "1 0 1/1 0 1/0 1 0/0 1 0"},
		{"2x10 2x20 2x30", 20, 40, 0, "0 1 0/0 1 0/1 0 1/1 0 1"},
	}
	for _, c := range cases {
		if rules, ok := impl.FrameOf(readSlips(c.stock), c.wide, c.high, c.corner); !equalLists(rules, readCountLists(c.want)) || ok != (c.want != "") {
			t.Errorf("frame %d %d %d of %s: %v %v, want %s", c.wide, c.high, c.corner, c.stock, rules, ok, c.want)
		}
	}
}

func TestCutSlip(t *testing.T) {
	cases := []struct {
		stock     string
		i, length int
		want      string
	}{
		// Into new lengths, and lengths that are there.
		{"3x12 2x30 1x40", 0, 5, "1x5 1x7 2x12 2x30 1x40"},
		{"3x12 2x30 1x40", 0, 7, "1x5 1x7 2x12 2x30 1x40"},
		{"3x12 2x30 1x40", 0, 1, "1x1 1x11 2x12 2x30 1x40"},
		{"3x12 2x30 1x40", 0, 11, "1x1 1x11 2x12 2x30 1x40"},
		{"3x12 2x30 1x40", 1, 12, "4x12 1x18 1x30 1x40"},
		{"3x12 2x30 1x40", 1, 18, "4x12 1x18 1x30 1x40"},
		{"3x12 2x30 1x40", 2, 10, "1x10 3x12 3x30 0x40"}, // no piece is left
		{"3x12 2x30 1x40", 2, 30, "1x10 3x12 3x30 0x40"},
		{"3x12 2x30 1x40", 2, 12, "4x12 1x28 2x30 0x40"},
		{"3x12 2x30 1x42", 2, 30, "4x12 3x30 0x42"},
		{"3x12 2x30 1x42", 2, 12, "4x12 3x30 0x42"},
		{"3x12 2x30 1x40", 2, 39, "1x1 3x12 2x30 1x39 0x40"},
		{"0x12 0x30 1x42", 2, 12, "1x12 1x30 0x42"},
		// Into equal parts.
		{"3x12 2x30 1x40", 0, 6, "2x6 2x12 2x30 1x40"},
		{"3x12 2x30 1x40", 2, 20, "3x12 2x20 2x30 0x40"},
		{"3x12 1x24", 1, 12, "5x12 0x24"},
		{"0x12 1x24", 1, 12, "2x12 0x24"},
		{"1x2", 0, 1, "2x1 0x2"},
		{"20x200", 0, 100, "2x100 19x200"},
		{"18x100 20x200", 1, 100, "20x100 19x200"},
		{"1x200", 0, 199, "1x1 1x199 0x200"},
		{"1x200", 0, 1, "1x1 1x199 0x200"},
		// No piece can be cut.
		{"1x1", 0, 1, ""},
		{"1x1", 0, 0, ""},
		{"20x1", 0, 1, ""},
		{"0x12 2x30", 0, 5, ""},
		{"0x12 2x30", 0, 6, ""},
		{noPieces, 7, 100, ""},
		{noPieces, 0, 1, ""},
		// The index is outside.
		{"3x12 2x30 1x40", -1, 5, ""},
		{"3x12 2x30 1x40", 3, 5, ""},
		{"3x12 2x30 1x40", 8, 5, ""},
		{"3x12 2x30 1x40", math.MaxInt, 5, ""},
		{"3x12 2x30 1x40", math.MinInt, 5, ""},
		{"", 0, 1, ""},
		{"", -1, 1, ""},
		// The length is not less, or there is none.
		{"3x12 2x30 1x40", 1, 30, ""},
		{"3x12 2x30 1x40", 1, 31, ""},
		{"3x12 2x30 1x40", 1, 42, ""},
		{"3x12 2x30 1x40", 1, 0, ""},
		{"3x12 2x30 1x40", 1, -1, ""},
		{"3x12 2x30 1x40", 1, -12, ""},
		{"3x12 2x30 1x40", 1, 1000, ""},
		{"3x12 2x30 1x40", 1, math.MaxInt, ""},
		{"3x12 2x30 1x40", 1, math.MinInt, ""},
		{"3x12 2x30 1x40", 1, math.MinInt + 30, ""},
		{"3x12 2x30 1x40", 1, math.MinInt + 18, ""},
		// Nine slips.
		{"1x10 1x20 1x30 1x40 1x50 1x60 1x70 1x80", 7, 10, "2x10 1x20 1x30 1x40 1x50 1x60 2x70 0x80"},
		{"1x10 1x20 1x30 1x40 1x50 1x60 1x70 1x80", 7, 40, "1x10 1x20 1x30 3x40 1x50 1x60 1x70 0x80"},
		{"1x10 1x20 1x30 1x40 1x50 1x60 1x70 1x80", 7, 9, ""},
		{"1x10 1x20 1x30 1x40 1x50 1x60 1x70 1x81", 7, 10, ""},
		{"1x10 1x20 1x30 1x40 1x50 1x60 1x70 1x81", 7, 71, ""},
		{"1x10 1x20 1x30 1x40 1x50 1x60 1x70 1x80", 0, 5, ""},
		{"0x10 0x20 0x30 0x40 0x50 0x60 0x70 1x80", 7, 1, ""},
		{"1x20 1x30 1x40 1x50 1x60 1x70 1x80", 6, 40, "1x20 1x30 3x40 1x50 1x60 1x70 0x80"},
		{"1x20 1x30 1x40 1x50 1x60 1x70 1x80", 6, 10, "1x10 1x20 1x30 1x40 1x50 1x60 2x70 0x80"},
		{"1x20 1x30 1x40 1x50 1x60 1x70 1x80", 0, 10, "2x10 0x20 1x30 1x40 1x50 1x60 1x70 1x80"},
		{"1x20 1x30 1x40 1x50 1x60 1x70 1x80", 0, 9, ""},
		{"1x30 1x40 1x50 1x60 1x70 1x80", 0, 9, "1x9 1x21 0x30 1x40 1x50 1x60 1x70 1x80"},
		// A Count over 20.
		{"19x12 1x24", 1, 12, ""},
		{"18x12 1x24", 1, 12, "20x12 0x24"},
		{"20x12 1x30", 1, 12, ""},
		{"20x12 1x30", 1, 18, ""},
		{"19x12 1x30", 1, 18, "20x12 1x18 0x30"},
		{"20x12 20x18 20x30", 2, 12, ""},
		{"19x12 20x18 20x30", 2, 12, ""},
		{"20x12 19x18 20x30", 2, 12, ""},
		{"19x12 19x18 20x30", 2, 12, "20x12 20x18 19x30"},
		{"20x6 20x12", 1, 6, ""},
		{"20x12 20x30", 1, 10, "1x10 20x12 1x20 19x30"},
	}
	for _, c := range cases {
		if l, ok := impl.CutSlip(readSlips(c.stock), c.i, c.length); !slices.Equal(l, readSlips(c.want)) || ok != (c.want != "") {
			t.Errorf("%s cut %d at %d: %v %v, want %s", c.stock, c.i, c.length, l, ok, c.want)
		}
	}
}

func TestJoinStocks(t *testing.T) {
	cases := []struct{ a, b, want string }{
		{"3x12 2x30 1x40", "1x5", "1x5 3x12 2x30 1x40"},
		{"3x12 2x30 1x40", "1x20", "3x12 1x20 2x30 1x40"},
		{"3x12 2x30 1x40", "7x200", "3x12 2x30 1x40 7x200"},
		{"3x12 2x30 1x40", "1x5 2x12 3x20 4x30 5x35", "1x5 5x12 3x20 6x30 5x35 1x40"},
		{"3x12 2x30 1x40", "3x12 2x30 1x40", "6x12 4x30 2x40"}, // common Lengths alone
		{"3x12 2x30 1x40", "0x12", "3x12 2x30 1x40"},
		{"3x12 2x30 1x40", "0x20", "3x12 0x20 2x30 1x40"},
		{"0x12", "0x12", "0x12"},
		{"0x12", "0x30", "0x12 0x30"},
		{"0x12", "4x12", "4x12"},
		{"1x1", "1x200", "1x1 1x200"},
		{noPieces, noPieces, noPieces},
		// A Count of 20 and more.
		{"20x12", "1x12", ""},
		{"20x12", "0x12", "20x12"},
		{"10x12", "10x12", "20x12"},
		{"11x12", "10x12", ""},
		{"20x12", "20x12", ""},
		{"20x12", "20x30", "20x12 20x30"},
		{"1x12 11x30", "1x12 10x30 1x40", ""},
		{"11x12 1x30", "10x12 1x30", ""},
		{"1x12 11x30", "1x12 9x30 1x40", "2x12 20x30 1x40"},
		{"10x12 10x30 10x40", "10x12 10x30 10x40", "20x12 20x30 20x40"},
		{"10x12 10x30 10x40", "10x12 10x30 11x40", ""},
		// MaxSlips and more.
		{"1x1 1x2 1x3 1x4", "1x5 1x6 1x7 1x8", "1x1 1x2 1x3 1x4 1x5 1x6 1x7 1x8"},
		{"1x1 1x3 1x5 1x7", "1x2 1x4 1x6 1x8", "1x1 1x2 1x3 1x4 1x5 1x6 1x7 1x8"},
		{"1x1 1x2 1x3 1x4", "1x5 1x6 1x7 1x8 1x9", ""},
		{"1x1 1x2 1x3 1x4", "1x4 1x5 1x6 1x7 1x8", "1x1 1x2 1x3 2x4 1x5 1x6 1x7 1x8"},
		{longSlips, "1x1", ""},
		{longSlips, "0x1", ""},
		{longSlips, "0x193", longSlips},
		{longSlips, "0x193 0x194 0x195 0x196 0x197 0x198 0x199 0x200", longSlips},
		{longSlips, "0x193 0x194 0x195 0x196 0x197 0x198 0x199 1x200", ""},
		{longSlips, longSlips, ""},
		{noPieces, "0x3", ""},
		{noPieces, someSlips, ""},
		{"1x10 1x20 1x30 1x40 1x50 1x60 1x70 1x80", "19x10 19x20 19x30 19x40 19x50 19x60 19x70 19x80", "20x10 20x20 20x30 20x40 20x50 20x60 20x70 20x80"},
	}
	for _, c := range cases {
		for _, pair := range [][2]string{{c.a, c.b}, {c.b, c.a}} {
			if l, ok := impl.JoinStocks(readSlips(pair[0]), readSlips(pair[1])); !slices.Equal(l, readSlips(c.want)) || ok != (c.want != "") {
				t.Errorf("%s with %s: %v %v, want %s", pair[0], pair[1], l, ok, c.want)
			}
		}
	}
	for _, l := range validSlipLists() {
		one, ok := impl.JoinStocks(l, nil)
		two, fine := impl.JoinStocks([]impl.Slip{}, l)
		if !slices.Equal(one, l) || !slices.Equal(two, l) || !ok || !fine {
			t.Errorf("%v with no slips: %v %v, %v %v", l, one, ok, two, fine)
		}
	}
}

func TestStockText(t *testing.T) {
	for _, text := range []string{
		"", "3x12 2x30 1x40 ", "0x1 ", "1x1 ", "20x1 ", "0x200 ", "20x200 ", "10x10 ", "1x100 ", "0x1 0x200 ", "20x1 20x200 ", "0x12 2x30 0x40 ", "9x9 10x10 19x99 ",
		longSlips + " ", manySlips + " ", someSlips + " ", noPieces + " ",
	} {
		l := readSlips(text)
		if s, ok := impl.StockText(l); s != text || !ok {
			t.Errorf("text of %v: %q %v", l, s, ok)
		}
		if x, ok := impl.ParseStock(text); !slices.Equal(x, l) || !ok {
			t.Errorf("stock of %q: %v %v", text, x, ok)
		}
	}
	for length := 1; length <= 200; length++ {
		for count := range 21 {
			l := []impl.Slip{{Length: length, Count: count}}
			text := strconv.Itoa(count) + "x" + strconv.Itoa(length) + " "
			s, ok := impl.StockText(l)
			x, fine := impl.ParseStock(text)
			if s != text || !ok || !slices.Equal(x, l) || !fine {
				t.Errorf("%s: %q %v, %v %v", text, s, ok, x, fine)
			}
		}
	}
}

func TestParseStockOfInvalidTexts(t *testing.T) {
	texts := []string{
		" ", "  ", "x", "x ", "3", "3 ", "3x", "3x ", "x12", "x12 ", "12 ", "\n", "\x00",
		"3x12", "3x12 2x30 1x40", "3x12  ", " 3x12 ", "3x12  2x30 ", "3x122x30 ", "3x12 2x30", "3x12 2x30 x", "3x12 2x30 1", // blanks
		"3 x12 ", "3x 12 ", "3 x 12 ", "3x12\t", "3x12\n", "3x12\n2x30 ", "3x12 \n", "3x12\u00a0", "3x12; ", "3x12,2x30 ", "3x12+2x30 ",
		"3X12 ", "3*12 ", "3×12 ", "3-12 ", "3=12 ", "3xx12 ", "3x12x ", "3x12x1 ", "x3x12 ", "12 3 ",
		"03x12 ", "3x012 ", "00x12 ", "3x0012 ", "+3x12 ", "3x+12 ", "-0x12 ", "+0x12 ", "-3x12 ", "3x-12 ", "--3x12 ", // zeros and signs
		"3.0x12 ", "3x1e1 ", "0x3x12 ", "3x0x12 ", "3x1_2 ", "٣x12 ", "3x１２ ", "\xffx12 ", "ax12 ", "3xa ",
		"21x12 ", "-1x12 ", "3x0 ", "3x201 ", "100x12 ", "3x1000 ", "0x0 ", // outside
		"18446744073709551619x12 ", "3x18446744073709551628 ", "3x99999999999999999999 ",
		"2x30 3x12 1x40 ", "3x12 1x40 2x30 ", "1x40 2x30 3x12 ", "3x12 3x12 ", "3x12 2x12 ", "3x12 2x30 0x30 ", "1x9 1x10 1x8 ", "1x100 1x20 ", // another order
		longSlips, longSlips + " 1x201 ", "1x1 " + longSlips + " ", "1x1 1x2 1x3 1x4 1x5 1x6 1x7 1x8 1x9 ", noPieces + " 0x201 ",
		strings.Repeat(" ", 100000), strings.Repeat("x", 100000), strings.Repeat("3x12 ", 100000), strings.Repeat("3x12", 100000), strings.Repeat("1", 100000) + "x12 ", "3x" + strings.Repeat("0", 100000) + "12 ",
	}
	for _, number := range []string{"", "00", "01", "+1", "-1", "+", "-", " ", "21 ", " 1", "1.", "x", "99999999999999999999"} {
		texts = append(texts, number+"x12 ", "3x12 "+number+"x30 ", "3x"+number+" ", "3x12 2x"+number+" ")
	}
	for _, text := range texts {
		if l, ok := impl.ParseStock(text); len(l) != 0 || ok {
			t.Errorf("%.60q: %v %v", text, l, ok)
		}
	}
}

// slipsByText returns all slips by what is written for them, without the blank.
func slipsByText() map[string]impl.Slip {
	slips := map[string]impl.Slip{}
	for length := 1; length <= 200; length++ {
		for count := range 21 {
			slips[strconv.Itoa(count)+"x"+strconv.Itoa(length)] = impl.Slip{Length: length, Count: count}
		}
	}
	return slips
}

// slipsOfText returns the stock of which the text, by the letter, is made.
func slipsOfText(text string, slips map[string]impl.Slip) ([]impl.Slip, bool) {
	entries := strings.Split(text, " ")
	last := len(entries) - 1
	var l []impl.Slip
	for _, entry := range entries[:last] {
		if slip, ok := slips[entry]; ok {
			l = append(l, slip)
		}
	}
	if len(l) != last || entries[last] != "" || !impl.IsStock(l) {
		return nil, false
	}
	return l, true
}

func TestParseStockOfChangedTexts(t *testing.T) {
	r := rand.New(rand.NewSource(63))
	slips := slipsByText()
	parsed, refused := 0, 0
	for range 40000 {
		text := changedText(r, []string{"3x12 2x30 1x40 ", "0x1 20x200 ", "20x199 0x200 ", "11x101 12x110 ", "7x7 "}[r.Intn(5)], "0123456789012xxx   +-")
		want, good := slipsOfText(text, slips)
		if good {
			parsed++
		} else {
			refused++
		}
		if l, ok := impl.ParseStock(text); !slices.Equal(l, want) || ok != good {
			t.Fatalf("%q: %v %v, want %v", text, l, ok, want)
		}
	}
	if min(parsed, refused) < 1000 {
		t.Error("too few:", parsed, refused)
	}
}

// countsOfSlips returns all counts of a stock, in no order that matters.
func countsOfSlips(l []impl.Slip) [][]int {
	all := [][]int{nil}
	for _, slip := range l {
		var longer [][]int
		for _, x := range all {
			for count := 0; count <= slip.Count; count++ {
				longer = append(longer, append(slices.Clone(x), count))
			}
		}
		all = longer
	}
	return all
}

// rulesByLength returns the rules of all lengths of which there is one, found among all counts.
func rulesByLength(l []impl.Slip) map[int][]int {
	rules := map[int][]int{}
	lengths := slipLengths(l)
	for _, x := range countsOfSlips(l) {
		length := widthOfCounts(lengths, x)
		best, found := rules[length]
		if few := sumOfCounts(x) - sumOfCounts(best); !found || few < 0 || few == 0 && isBetterFilling(x, best) {
			rules[length] = x
		}
	}
	delete(rules, 0)
	return rules
}

// randomSlips returns a stock with at most so many counts.
func randomSlips(r *rand.Rand, ways int) []impl.Slip {
	step, most, count := []int{1, 1, 2, 5, 10}[r.Intn(5)], []int{20, 40, 100, 200}[r.Intn(4)], []int{1, 2, 3, 20}[r.Intn(4)]
	slips, n := map[int]int{}, r.Intn(9)
	for len(slips) < n && len(slips) < most/step {
		length := (1 + r.Intn(most/step)) * step
		if _, found := slips[length]; !found {
			slips[length] = min(r.Intn(count+2), 20, ways-1)
			ways /= slips[length] + 1
		}
	}
	return slipsOfMap(slips)
}

// slipsOfMap returns slips with numbers of pieces by their lengths.
func slipsOfMap(slips map[int]int) []impl.Slip {
	var l []impl.Slip
	for length := 1; length <= 1000; length++ {
		if count, found := slips[length]; found {
			l = append(l, impl.Slip{Length: length, Count: count})
		}
	}
	return l
}

// checkLengths checks what can be made of a stock against what can be.
func checkLengths(t *testing.T, l []impl.Slip, can func(length int) bool) {
	t.Helper()
	var made []int
	for most := range 401 {
		if most > 0 && can(most) {
			made = append(made, most)
		}
		if x, ok := impl.LengthsUpTo(l, most); !slices.Equal(x, made) || !ok {
			t.Fatalf("lengths of %v up to %d: %v %v, want %v", l, most, x, ok, made)
		}
	}
	next := 0
	for length := 400; length >= 1; length-- {
		if can(length) {
			next = length
		}
		if n, ok := impl.MissingFor(l, length); n != max(next-length, 0) || ok != (next > 0) {
			t.Fatalf("missing for %d of %v: %d %v, want %d", length, l, n, ok, next-length)
		}
	}
}

// checkRule checks a rule, and the pieces of it.
func checkRule(t *testing.T, l []impl.Slip, length int, want []int) {
	t.Helper()
	x, ok := impl.RuleOf(l, length)
	if !slices.Equal(x, want) || ok != (want != nil) {
		t.Fatalf("rule of %d of %v: %v %v, want %v", length, l, x, ok, want)
	}
	if !ok {
		return
	}
	n, long, fine := impl.PiecesOf(l, x)
	rest, ok := impl.RestOfStock(l, x)
	if n != sumOfCounts(want) || long != length || !fine || !ok || !slices.Equal(slipLengths(rest), slipLengths(l)) {
		t.Fatalf("pieces %v of %v: %d %d %v, rest %v %v", x, l, n, long, fine, rest, ok)
	}
	for i := range l {
		if rest[i].Count+x[i] != l[i].Count {
			t.Fatalf("rest without %v of %v: %v", x, l, rest)
		}
	}
}

func TestRandomRules(t *testing.T) {
	r := rand.New(rand.NewSource(64))
	made, missed, full := 0, 0, 0
	for range 300 {
		l := randomSlips(r, 3000)
		rules := rulesByLength(l)
		checkLengths(t, l, func(length int) bool { return rules[length] != nil })
		if len(l) == 8 {
			full++
		}
		longest, _ := impl.StockLength(l)
		for length := 1; length <= min(longest+5, 400); length += 1 + r.Intn(5) {
			checkRule(t, l, length, rules[length])
			if rules[length] == nil {
				missed++
			} else {
				made++
			}
		}
	}
	if min(made, missed) < 4000 || full < 20 {
		t.Error("too few:", made, missed, full)
	}
}

// exactPieces tells, for each number of the first slips, for each number of pieces, and for each length up to 400, whether as many of their pieces have this length.
func exactPieces(l []impl.Slip) [][][401]bool {
	most := sumOfCounts(allPieces(l))
	can := [][][401]bool{make([][401]bool, most+1)}
	can[0][0][0] = true
	for k, slip := range l {
		next := make([][401]bool, most+1)
		for pieces := range next {
			for length := range 401 {
				for count := 0; count <= min(slip.Count, pieces) && count*slip.Length <= length; count++ {
					if can[k][pieces-count][length-count*slip.Length] {
						next[pieces][length] = true
						break
					}
				}
			}
		}
		can = append(can, next)
	}
	return can
}

// ruleOfExact returns the rule of a length: with the least number of pieces with which there is one, and the most of the longest slip each time.
func ruleOfExact(l []impl.Slip, can [][][401]bool, length int) []int {
	pieces := slices.IndexFunc(can[len(l)], func(made [401]bool) bool { return made[length] })
	if pieces < 0 {
		return nil
	}
	rule := make([]int, len(l))
	for k := len(l) - 1; k >= 0; k-- {
		for count := 0; count <= min(l[k].Count, pieces) && count*l[k].Length <= length; count++ {
			if can[k][pieces-count][length-count*l[k].Length] {
				rule[k] = count
			}
		}
		pieces -= rule[k]
		length -= rule[k] * l[k].Length
	}
	return rule
}

// TestRulesOfManyPieces checks rules of stocks with too many counts to try them all.
func TestRulesOfManyPieces(t *testing.T) {
	r := rand.New(rand.NewSource(65))
	lists := validSlipLists()
	for range 12 {
		l := randomSlips(r, 1<<40)
		for i := range l {
			l[i].Count = min(20, l[i].Count+r.Intn(15))
		}
		lists = append(lists, l)
	}
	for _, l := range lists {
		can := exactPieces(l)
		checkLengths(t, l, func(length int) bool { return ruleOfExact(l, can, length) != nil })
		for length := 1; length <= 400; length += 1 + r.Intn(9) {
			checkRule(t, l, length, ruleOfExact(l, can, length))
		}
		checkRule(t, l, 400, ruleOfExact(l, can, 400))
	}
}

// rulesOneByOne returns the rules of lengths, each one found among all counts of what is left.
func rulesOneByOne(l []impl.Slip, lengths []int) ([][]int, bool) {
	l = slices.Clone(l)
	var rules [][]int
	for _, length := range lengths {
		rule := rulesByLength(l)[length]
		if rule == nil {
			return nil, false
		}
		for i := range l {
			l[i].Count -= rule[i]
		}
		rules = append(rules, rule)
	}
	return rules, true
}

// randomRuleLengths returns lengths that can mostly be made of a stock one after the other.
func randomRuleLengths(r *rand.Rand, l []impl.Slip, n int) []int {
	var lengths []int
	pieces := allPieces(l)
	for range n {
		x := make([]int, len(l))
		for i, left := range pieces {
			x[i] = r.Intn(left/2 + 1)
			pieces[i] -= x[i]
		}
		length := widthOfCounts(slipLengths(l), x)
		if r.Intn(12) == 0 {
			length += r.Intn(9) - 4
		}
		lengths = append(lengths, min(max(length, 1), 400))
	}
	return lengths
}

func TestRandomRulesOf(t *testing.T) {
	r := rand.New(rand.NewSource(66))
	made, failed, later := 0, 0, 0
	for range 1000 {
		l := randomSlips(r, 600)
		for n := range 7 {
			lengths := randomRuleLengths(r, l, n)
			want, can := rulesOneByOne(l, lengths)
			if rules, ok := impl.RulesOf(l, lengths); !equalLists(rules, want) || ok != can {
				t.Fatalf("rules %v of %v: %v %v, want %v", lengths, l, rules, ok, want)
			}
			if can {
				made++
				continue
			}
			failed++
			if !slices.ContainsFunc(lengths, func(length int) bool { return rulesByLength(l)[length] == nil }) {
				later++
			}
		}
	}
	if min(made, failed) < 1000 || later < 80 {
		t.Error("too few:", made, failed, later)
	}
}

func TestRandomFrames(t *testing.T) {
	r := rand.New(rand.NewSource(67))
	made, failed := 0, 0
	for range 2000 {
		l := randomSlips(r, 1000)
		corner := r.Intn(51)
		// Halves of the stock, so that two sides of each length can often be made.
		sides := randomRuleLengths(r, slipsHalved(l), 2)
		wide, high := sides[0]+2*corner, sides[1]+2*corner
		want, can := rulesOneByOne(l, []int{sides[0], sides[0], sides[1], sides[1]})
		if max(wide, high) > 400 {
			want, can = nil, false
		}
		if rules, ok := impl.FrameOf(l, wide, high, corner); !equalLists(rules, want) || ok != can {
			t.Fatalf("frame %d %d %d of %v: %v %v, want %v", wide, high, corner, l, rules, ok, want)
		}
		if can {
			made++
		} else {
			failed++
		}
	}
	if min(made, failed) < 200 {
		t.Error("too few:", made, failed)
	}
}

func slipsHalved(l []impl.Slip) []impl.Slip {
	l = slices.Clone(l)
	for i := range l {
		l[i].Count /= 2
	}
	return l
}

// slipsMap returns the numbers of pieces by their lengths.
func slipsMap(lists ...[]impl.Slip) map[int]int {
	slips := map[int]int{}
	for _, l := range lists {
		for _, slip := range l {
			slips[slip.Length] += slip.Count
		}
	}
	return slips
}

// checkStockOfMap checks a result that has to be the stock with numbers of pieces by their lengths, if these are one.
func checkStockOfMap(t *testing.T, name string, l []impl.Slip, ok bool, slips map[int]int) bool {
	t.Helper()
	can := len(slips) <= 8
	for _, count := range slips {
		can = can && count <= 20
	}
	var want []impl.Slip
	if can {
		want = slipsOfMap(slips)
	}
	if !slices.Equal(l, want) || ok != can {
		t.Fatalf("%s: %v %v, want %v", name, l, ok, want)
	}
	return can
}

// checkCut checks the cut of a piece, and that it keeps the length of all.
func checkCut(t *testing.T, l []impl.Slip, i, length int) bool {
	t.Helper()
	x, ok := impl.CutSlip(l, i, length)
	name := "slip " + strconv.Itoa(i) + " of " + strconv.Itoa(len(l)) + " cut at " + strconv.Itoa(length)
	if l[i].Count == 0 {
		if len(x) != 0 || ok {
			t.Fatalf("%s: %v %v, but no piece of %v is there", name, x, ok, l)
		}
		return false
	}
	slips := slipsMap(l)
	slips[l[i].Length]--
	slips[length]++
	slips[l[i].Length-length]++
	if !checkStockOfMap(t, name, x, ok, slips) {
		return false
	}
	before, _ := impl.StockLength(l)
	if after, ok := impl.StockLength(x); after != before || !ok || sumOfCounts(allPieces(x)) != sumOfCounts(allPieces(l))+1 {
		t.Fatalf("%s: %v of %v", name, x, l)
	}
	return true
}

func TestRandomCuts(t *testing.T) {
	r := rand.New(rand.NewSource(68))
	cut, failed := 0, 0
	for range 400 {
		l := randomSlips(r, 1<<40)
		for i := range l {
			for length := 1; length < l[i].Length; length += 1 + r.Intn(4) {
				if checkCut(t, l, i, length) {
					cut++
				} else {
					failed++
				}
			}
		}
	}
	if min(cut, failed) < 5000 {
		t.Error("too few:", cut, failed)
	}
}

func TestRandomJoinedStocks(t *testing.T) {
	r := rand.New(rand.NewSource(69))
	joined, failed := 0, 0
	for range 4000 {
		a, b := randomSlips(r, 1<<40), randomSlips(r, 1<<40)
		l, ok := impl.JoinStocks(a, b)
		if checkStockOfMap(t, "joined stocks", l, ok, slipsMap(a, b)) {
			joined++
		} else {
			failed++
		}
		text, ok := impl.StockText(a)
		read, fine := impl.ParseStock(text)
		if !slices.Equal(readSlips(text), a) || !slices.Equal(read, a) || !ok || !fine {
			t.Fatalf("%v: %q %v, %v %v", a, text, ok, read, fine)
		}
	}
	if min(joined, failed) < 1000 {
		t.Error("too few:", joined, failed)
	}
}

// refuseSlips checks that no function takes these slips.
func refuseSlips(t *testing.T, l []impl.Slip) {
	t.Helper()
	if n, ok := impl.StockLength(l); n != 0 || ok {
		t.Errorf("length of %.100v: %d %v", l, n, ok)
	}
	for _, length := range []int{1, 12, 54, 400} {
		refuseRuleLength(t, l, length)
	}
	for _, most := range []int{0, 1, 400} {
		refuseMost(t, l, most)
	}
	for _, x := range [][]int{nil, {}, {0}, counts(len(l), 0), counts(len(l), 1), allPieces(l)} {
		refuseSlipCounts(t, l, x)
	}
	for _, lengths := range [][]int{nil, {}, {12}, {54, 70}} {
		refuseRuleLengths(t, l, lengths)
	}
	refuseFrame(t, l, 12, 30, 0)
	refuseFrame(t, l, 112, 130, 50)
	for i := range min(len(l), 10) {
		for _, length := range []int{1, 6, 12, 29, l[i].Length / 2, l[i].Length - 1} {
			refuseCut(t, l, i, length)
		}
	}
	for _, other := range validSlipLists() {
		refuseJoined(t, l, other)
		refuseJoined(t, other, l)
	}
	if s, ok := impl.StockText(l); s != "" || ok {
		t.Errorf("text of %.100v: %.100q %v", l, s, ok)
	}
}

func refuseRuleLength(t *testing.T, l []impl.Slip, length int) {
	t.Helper()
	if x, ok := impl.RuleOf(l, length); len(x) != 0 || ok {
		t.Errorf("rule of %d of %.100v: %v %v", length, l, x, ok)
	}
	if n, ok := impl.MissingFor(l, length); n != 0 || ok {
		t.Errorf("missing for %d of %.100v: %d %v", length, l, n, ok)
	}
	refuseRuleLengths(t, l, []int{length})
}

func refuseMost(t *testing.T, l []impl.Slip, most int) {
	t.Helper()
	if x, ok := impl.LengthsUpTo(l, most); len(x) != 0 || ok {
		t.Errorf("lengths of %.100v up to %d: %v %v", l, most, x, ok)
	}
}

func refuseSlipCounts(t *testing.T, l []impl.Slip, x []int) {
	t.Helper()
	if n, length, ok := impl.PiecesOf(l, x); n != 0 || length != 0 || ok {
		t.Errorf("pieces %.100v of %.100v: %d %d %v", x, l, n, length, ok)
	}
	if rest, ok := impl.RestOfStock(l, x); len(rest) != 0 || ok {
		t.Errorf("rest of %.100v without %.100v: %v %v", l, x, rest, ok)
	}
}

func refuseRuleLengths(t *testing.T, l []impl.Slip, lengths []int) {
	t.Helper()
	if rules, ok := impl.RulesOf(l, lengths); len(rules) != 0 || ok {
		t.Errorf("rules %.100v of %.100v: %v %v", lengths, l, rules, ok)
	}
}

func refuseFrame(t *testing.T, l []impl.Slip, wide, high, corner int) {
	t.Helper()
	if rules, ok := impl.FrameOf(l, wide, high, corner); len(rules) != 0 || ok {
		t.Errorf("frame %d %d %d of %.100v: %v %v", wide, high, corner, l, rules, ok)
	}
}

func refuseCut(t *testing.T, l []impl.Slip, i, length int) {
	t.Helper()
	if x, ok := impl.CutSlip(l, i, length); len(x) != 0 || ok {
		t.Errorf("%.100v cut %d at %d: %v %v", l, i, length, x, ok)
	}
}

func refuseJoined(t *testing.T, a, b []impl.Slip) {
	t.Helper()
	if l, ok := impl.JoinStocks(a, b); len(l) != 0 || ok {
		t.Errorf("%.100v with %.100v: %v %v", a, b, l, ok)
	}
}

func TestInvalidSlipLists(t *testing.T) {
	for _, l := range invalidSlipLists() {
		refuseSlips(t, l)
		refuseJoined(t, l, l)
	}
}

func TestInvalidSlipCounts(t *testing.T) {
	for _, l := range validSlipLists() {
		for _, x := range invalidSlipCounts(l) {
			refuseSlipCounts(t, l, x)
		}
	}
}

func TestInvalidRuleLengths(t *testing.T) {
	for _, l := range validSlipLists() {
		for _, length := range invalidRuleLengths {
			refuseRuleLength(t, l, length)
			if length != 0 {
				refuseMost(t, l, length)
			}
			for _, lengths := range [][]int{{1, length}, {length, 1}, {1, 1, 1, 1, 1, length}, {12, length, 12}} {
				refuseRuleLengths(t, l, lengths)
			}
		}
		for _, n := range []int{7, 8, 1000} {
			refuseRuleLengths(t, l, counts(n, 1))
			refuseRuleLengths(t, l, counts(n, 12))
		}
	}
	for length := -10; length < 420; length++ {
		valid := length >= 1 && length <= 400
		_, ok := impl.RuleOf(readSlips("20x1 20x20"), length)
		_, two := impl.MissingFor(readSlips("20x1 20x20"), length)
		_, three := impl.RulesOf(readSlips("20x1 20x20"), []int{length})
		if ok != valid || two != valid || three != valid {
			t.Error("length", length, ok, two, three)
		}
		if _, ok := impl.LengthsUpTo(readSlips("20x1 20x20"), length); ok != (valid || length == 0) {
			t.Error("lengths up to", length, ok)
		}
	}
	for n := range 12 {
		if rules, ok := impl.RulesOf(readSlips("20x1 20x20"), counts(n, 1)); ok != (n <= 6) || ok && len(rules) != n {
			t.Error("rules", n, rules, ok)
		}
	}
}

func TestInvalidFrames(t *testing.T) {
	for _, l := range validSlipLists() {
		for _, n := range slices.Concat(invalidRuleLengths, []int{math.MinInt + 99, math.MinInt + 100, math.MinInt + 101, math.MinInt + 500}) {
			for _, corner := range []int{0, 1, 50} {
				refuseFrame(t, l, n, 200, corner)
				refuseFrame(t, l, 200, n, corner)
				refuseFrame(t, l, n, n, corner)
			}
		}
		for _, corner := range []int{-1, -2, -50, math.MinInt, math.MinInt / 2, 51, 52, 100, math.MaxInt, math.MaxInt/2 + 1, 1 << 62} {
			for _, side := range []int{1, 12, 101, 112, 200, 400} {
				refuseFrame(t, l, side, side, corner)
			}
		}
	}
	// All pieces are there for all sides, so that the limits alone decide.
	l := readSlips("20x1 20x2 20x5 20x10 20x20 20x50")
	for corner := -5; corner < 60; corner++ {
		for side := range 4 {
			_, ok := impl.FrameOf(l, 2*corner+side, 2*corner+3-side, corner)
			if ok != (corner >= 0 && corner <= 50 && side >= 1 && side <= 2) {
				t.Error("corner", corner, "side", side, ok)
			}
		}
	}
	for wide := -5; wide < 410; wide++ {
		for _, corner := range []int{0, 1, 10, 50} {
			valid := wide > 2*corner && wide <= 400
			_, ok := impl.FrameOf(l, wide, 2*corner+1, corner)
			_, two := impl.FrameOf(l, 2*corner+1, wide, corner)
			if ok != valid || two != valid {
				t.Error("side", wide, corner, ok, two)
			}
		}
	}
}

// ruleResults are the results of all functions on slips, each with its success.
type ruleResults struct {
	isStock       bool
	numbers       [4]int
	text          string
	done          [12]bool
	lists         [2][]int
	rules, frame  [][]int
	rest, cut     []impl.Slip
	joined, again []impl.Slip
	parsed        []impl.Slip
}

func ruleResultsOf(l, other []impl.Slip, x, lengths []int, length, i int) (s ruleResults) {
	s.isStock = impl.IsStock(l)
	s.numbers[0], s.done[0] = impl.StockLength(l)
	s.lists[0], s.done[1] = impl.RuleOf(l, length)
	s.numbers[1], s.numbers[2], s.done[2] = impl.PiecesOf(l, x)
	s.rest, s.done[3] = impl.RestOfStock(l, x)
	s.numbers[3], s.done[4] = impl.MissingFor(l, length)
	s.lists[1], s.done[5] = impl.LengthsUpTo(l, length)
	s.rules, s.done[6] = impl.RulesOf(l, lengths)
	s.frame, s.done[7] = impl.FrameOf(l, length+2, length+2, 1)
	s.cut, s.done[8] = impl.CutSlip(l, i, length)
	s.joined, s.done[9] = impl.JoinStocks(l, other)
	s.again, s.done[10] = impl.JoinStocks(other, l)
	s.text, s.done[11] = impl.StockText(l)
	s.parsed, _ = impl.ParseStock(s.text)
	return s
}

func (s ruleResults) numberLists() [][]int {
	return slices.Concat(s.lists[:], s.rules, s.frame)
}

func (s ruleResults) slipLists() [][]impl.Slip {
	return [][]impl.Slip{s.rest, s.cut, s.joined, s.again, s.parsed}
}

// sameRuleResults compares results; their lists are overwritten.
func sameRuleResults(a, b ruleResults) bool {
	same := equalLists(a.numberLists(), b.numberLists()) && slices.EqualFunc(a.slipLists(), b.slipLists(), slices.Equal[[]impl.Slip])
	for _, s := range []ruleResults{a, b} {
		for _, l := range s.numberLists() {
			overwrite(l, true)
		}
		for _, l := range s.slipLists() {
			overwrite(l, true)
		}
	}
	return same && a.isStock == b.isStock && a.numbers == b.numbers && a.text == b.text && a.done == b.done
}

// shareAny reports whether two of the lists have memory in common.
func shareAny[T any](lists [][]T) bool {
	for i, a := range lists {
		for _, b := range lists[:i] {
			if shareMemory(a, b) {
				return true
			}
		}
	}
	return false
}

// TestSlipsStay calls the functions with lists that have spare capacity, of which they must neither take nor change anything, and overwrites the results.
func TestSlipsStay(t *testing.T) {
	lists := slices.Concat(validSlipLists(), invalidSlipLists()[2:])
	for k, given := range lists {
		other := lists[(k*7+3)%len(lists)]
		for n, x := range append(invalidSlipCounts(given), allPieces(given), counts(len(given), 0), counts(len(given), 1)) {
			length := []int{12, 54, 400, 0, 401, 1}[n%6]
			lengths := [][]int{{12, 54}, {54, 70}, nil, {12, 12, 12, 12}, {40, 401}}[n%5]
			// What is behind the slips would be one more slip, what is behind the counts one more count.
			l, slipsStay := guarded(t, "slips", given, impl.Slip{Length: 200, Count: 2})
			m, othersStay := guarded(t, "other slips", other, impl.Slip{Length: 200, Count: 2})
			c, countsStay := guarded(t, "counts", x, 0)
			d, lengthsStay := guarded(t, "lengths", lengths, 12)
			plain := ruleResultsOf(slices.Clip(slices.Clone(given)), slices.Clip(slices.Clone(other)), slices.Clip(slices.Clone(x)), slices.Clip(slices.Clone(lengths)), length, n%3)
			s := ruleResultsOf(l, m, c, d, length, n%3)
			if shareAny(append(s.numberLists(), c, d)) || shareAny(append(s.slipLists(), l, m)) {
				t.Errorf("%.100v, %.100v, %.100v, %v, %d: results share memory", given, other, x, lengths, length)
			}
			if !sameRuleResults(s, plain) {
				t.Errorf("%.100v, %.100v, %.100v, %v, %d: %v, without spare capacity %v", given, other, x, lengths, length, s, plain)
			}
			slipsStay()
			othersStay()
			countsStay()
			lengthsStay()
		}
	}
}

// TestRuleResultsAreNew checks that the same call gives the same result when an earlier one has been overwritten.
func TestRuleResultsAreNew(t *testing.T) {
	l := exampleSlips()
	for range 2 {
		rule, _ := impl.RuleOf(l, 54)
		made, _ := impl.LengthsUpTo(l, 30)
		rules, _ := impl.RulesOf(l, []int{54, 70})
		frame, _ := impl.FrameOf(readSlips("4x12 2x30"), 42, 12, 0)
		rest, _ := impl.RestOfStock(l, []int{2, 1, 0})
		cut, _ := impl.CutSlip(l, 2, 10)
		joined, _ := impl.JoinStocks(l, nil)
		parsed, _ := impl.ParseStock("3x12 2x30 1x40 ")
		if !slices.Equal(rule, []int{2, 1, 0}) || !slices.Equal(made, []int{12, 24, 30}) || !equalLists(rules, readCountLists("2 1 0/0 1 1")) || !equalLists(frame, readCountLists("1 1/1 1/1 0/1 0")) {
			t.Error(rule, made, rules, frame)
		}
		if !slices.Equal(rest, readSlips("1x12 1x30 1x40")) || !slices.Equal(cut, readSlips("1x10 3x12 3x30 0x40")) || !slices.Equal(joined, l) || !slices.Equal(parsed, l) {
			t.Error(rest, cut, joined, parsed)
		}
		numbers := slices.Concat([][]int{rule, made}, rules, frame)
		slips := [][]impl.Slip{rest, cut, joined, parsed}
		if shareAny(numbers) || shareAny(append(slips, l)) {
			t.Error("results share memory")
		}
		for _, x := range numbers {
			overwrite(x, true)
		}
		for _, x := range slips {
			overwrite(x, true)
		}
		if !slices.Equal(l, exampleSlips()) {
			t.Fatal("an argument was changed:", l)
		}
	}
}
