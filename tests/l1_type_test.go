package tests

import (
	"math"
	"math/rand"
	"slices"
	"strconv"
	"strings"
	"testing"

	"loop.example/g01054/impl"
)

// font reads sorts as FontText writes them, valid or not, without the help of the package.
func font(entries ...string) []impl.Sort {
	var f []impl.Sort
	for _, e := range entries {
		digits := strings.IndexAny(e, "-0123456789")
		set, err := strconv.Atoi(e[digits:])
		if err != nil {
			panic(err)
		}
		f = append(f, impl.Sort{Code: e[:digits], Set: set})
	}
	return f
}

// pairs returns n sorts with the Codes aa, ab, .., ba, .. and the widths 1, 2, ..
func pairs(n int) []impl.Sort {
	var f []impl.Sort
	for i := range n {
		f = append(f, impl.Sort{Code: string([]byte{byte('a' + i/26), byte('a' + i%26)}), Set: 1 + i%54})
	}
	return f
}

func exampleFont() []impl.Sort { return font("f6", "fi10", "i5", "n10") }

func manyWords(n int) []string { return slices.Repeat([]string{"fin"}, n) }

var invalidSorts = []impl.Sort{
	{}, {Code: "", Set: 5}, {Code: "abcd", Set: 5}, {Code: "A", Set: 5}, {Code: "aB", Set: 5}, {Code: "`", Set: 5}, {Code: "{", Set: 5},
	{Code: "a1", Set: 5}, {Code: "a ", Set: 5}, {Code: " a", Set: 5}, {Code: "ä", Set: 5}, {Code: "aä", Set: 5}, {Code: "\xff", Set: 5}, {Code: "a\x00", Set: 5}, {Code: "š", Set: 5},
	{Code: "a", Set: 0}, {Code: "a", Set: -1}, {Code: "a", Set: 55}, {Code: "abc", Set: 55}, {Code: "a", Set: math.MaxInt}, {Code: "a", Set: math.MinInt},
	{Code: strings.Repeat("a", 100000), Set: 5},
}

func invalidFonts() [][]impl.Sort {
	fonts := [][]impl.Sort{
		nil, {}, font("b5", "a5"), font("a5", "a5"), font("a5", "a6"), font("ab5", "a5"), font("a5", "c5", "b5"), font("fi10", "f6", "i5", "n10"), font("f6", "fi10", "i5", "n0"), font("f6", "fi10", "i5", "n55"), font("f0", "fi10", "i5", "n10"),
		pairs(33), pairs(300),
	}
	for _, s := range invalidSorts {
		fonts = append(fonts, []impl.Sort{s}, append(exampleFont(), s), append([]impl.Sort{s}, exampleFont()...))
	}
	return fonts
}

var invalidWords = []string{
	"", "F", "fIn", "fin ", " fin", "f in", "f1n", "fi-n", "fi`", "fi{", "fïn", "ﬁn", "fi\xff", "\x00fin", "fin\n", "fff\u0166", "\u0166", strings.Repeat("f", 17), strings.Repeat("f", 100000),
}

func TestIsSort(t *testing.T) {
	for _, s := range font("a1", "z54", "ab1", "zz54", "abc1", "zzz54", "ffi18", "aaa9") {
		if !impl.IsSort(s) {
			t.Errorf("%v is a sort", s)
		}
	}
	for _, s := range invalidSorts {
		if impl.IsSort(s) {
			t.Errorf("%.20q %d is no sort", s.Code, s.Set)
		}
	}
	for c := range 256 {
		if s := (impl.Sort{Code: string([]byte{byte(c)}), Set: 1}); impl.IsSort(s) != (c >= 'a' && c <= 'z') {
			t.Errorf("sort with the byte %d", c)
		}
	}
}

func TestConstants(t *testing.T) {
	if impl.Em != 18 || impl.MaxSorts != 32 {
		t.Error(impl.Em, impl.MaxSorts)
	}
}

func TestIsFont(t *testing.T) {
	for _, f := range [][]impl.Sort{exampleFont(), font("a1"), font("zzz54"), font("a1", "b1"), font("a1", "aa1", "aaa1", "aab1", "ab1", "b1"), pairs(32), pairs(31)} {
		if !impl.IsFont(f) {
			t.Errorf("%v is a font", f)
		}
	}
	for _, f := range invalidFonts() {
		if impl.IsFont(f) {
			t.Errorf("%.200v is no font", f)
		}
	}
}

func TestSetOfCode(t *testing.T) {
	f := exampleFont()
	for _, s := range f {
		if n, ok := impl.SetOfCode(f, s.Code); n != s.Set || !ok {
			t.Errorf("%s: %d %v", s.Code, n, ok)
		}
	}
	for i, s := range pairs(32) {
		if n, ok := impl.SetOfCode(pairs(32), s.Code); n != i+1 || !ok {
			t.Errorf("%s: %d %v", s.Code, n, ok)
		}
	}
	if n, ok := impl.SetOfCode(font("m18"), "m"); n != impl.Em || !ok {
		t.Error("a single sort", n, ok)
	}
	for _, code := range append([]string{"a", "z", "fa", "ffi", "in", "abc", "g"}, invalidWords...) {
		if n, ok := impl.SetOfCode(f, code); n != 0 || ok {
			t.Errorf("%.20q: %d %v", code, n, ok)
		}
	}
}

// setCases tells for fonts and words the sorts with which they are set; none where they cannot be set.
var setCases = []struct {
	font, word string
	sorts      []int
	width      int
	ligatures  []string
}{
	{"f6;fi10;i5;n10;", "fin", []int{1, 3}, 20, []string{"fi"}},
	{"f6;fi10;i5;n10;", "nif", []int{3, 2, 0}, 21, nil},
	{"f6;fi10;i5;n10;", "f", []int{0}, 6, nil},
	{"f6;fi10;i5;n10;", "fifi", []int{1, 1}, 20, []string{"fi", "fi"}},
	{"f6;fi10;i5;n10;", "ffii", []int{0, 1, 2}, 21, []string{"fi"}},
	{"f6;fi10;i5;n10;", "fan", nil, 0, nil},
	{"f6;fi10;i5;n10;", "fina", nil, 0, nil},
	{"f6;ff12;ffi15;fi10;i5;", "ffi", []int{2}, 15, []string{"ffi"}},
	{"f6;ff12;ffi15;fi10;i5;", "fffi", []int{1, 3}, 22, []string{"ff", "fi"}},
	{"f6;ff12;ffi15;fi10;i5;", "ffffi", []int{1, 2}, 27, []string{"ff", "ffi"}},
	{"f6;ff12;ffi15;fi10;i5;", "fffff", []int{1, 1, 0}, 30, []string{"ff", "ff"}},
	{"f6;ff12;ffi15;fi10;i5;", "iffi", []int{4, 2}, 20, []string{"ffi"}},
	// f and in make up the word, but fi is taken first.
	{"f6;fi10;in12;", "fin", nil, 0, nil},
	{"a1;ab1;bc1;", "abc", nil, 0, nil},
	{"a1;abc1;b1;cd1;", "abcd", nil, 0, nil},
	// There is no ff between f and ffi, so that fff is set with single sorts.
	{"f6;ffi15;", "ffffi", []int{0, 0, 1}, 27, []string{"ffi"}},
	{"m18;", "m", []int{0}, 18, nil},
	{"m18;", "mmmmmmmmmmmmmmmm", []int{0, 0, 0, 0, 0, 0, 0, 0, 0, 0, 0, 0, 0, 0, 0, 0}, 288, nil},
	{"m54;", "mmmmmmmmmmmmmmmm", []int{0, 0, 0, 0, 0, 0, 0, 0, 0, 0, 0, 0, 0, 0, 0, 0}, 864, nil},
	{"m18;", "n", nil, 0, nil},
	{"mm18;", "mmm", nil, 0, nil},
	{"mm18;", "m", nil, 0, nil},
	{"mmm18;", "mmmmmm", []int{0, 0}, 36, []string{"mmm", "mmm"}},
}

func TestWordsThatAreSet(t *testing.T) {
	for _, c := range setCases {
		f := font(strings.Split(strings.TrimSuffix(c.font, ";"), ";")...)
		can := c.sorts != nil
		if l, ok := impl.SortsOfWord(f, c.word); !slices.Equal(l, c.sorts) || ok != can {
			t.Errorf("sorts of %s in %s: %v %v", c.word, c.font, l, ok)
		}
		if n, ok := impl.WidthOfWord(f, c.word); n != c.width || ok != can {
			t.Errorf("width of %s in %s: %v %v", c.word, c.font, n, ok)
		}
		if l, ok := impl.LigaturesIn(f, c.word); !slices.Equal(l, c.ligatures) || ok != can {
			t.Errorf("ligatures of %s in %s: %v %v", c.word, c.font, l, ok)
		}
	}
}

func TestWordsOfAFullFont(t *testing.T) {
	f := pairs(32)
	if l, ok := impl.SortsOfWord(f, "aabfazba"); !slices.Equal(l, []int{0, 31, 25, 26}) || !ok {
		t.Error("sorts", l, ok)
	}
	if n, ok := impl.WidthOfWord(f, "aabfazba"); n != 1+32+26+27 || !ok {
		t.Error("width", n, ok)
	}
	if l, n, ok := impl.NarrowestWay(f, "aabfazba"); !slices.Equal(l, []int{0, 31, 25, 26}) || n != 86 || !ok {
		t.Error("narrowest", l, n, ok)
	}
	if l, ok := impl.LigaturesIn(f, "aabf"); !slices.Equal(l, []string{"aa", "bf"}) || !ok {
		t.Error("ligatures", l, ok)
	}
	if s, ok := impl.MissingLetters(f, []string{"bab"}); s != "ab" || !ok {
		t.Error("missing", s, ok)
	}
}

func TestNarrowestWay(t *testing.T) {
	cases := []struct {
		font, word string
		sorts      []int
		width      int
	}{
		{"f6;fi10;i5;n10;", "fin", []int{1, 3}, 20},
		{"f6;fi12;i5;n10;", "fin", []int{0, 2, 3}, 21},
		{"f6;fi11;i5;n10;", "fin", []int{0, 2, 3}, 21}, // both ways are 21 wide
		{"f6;fi11;i5;", "fifi", []int{0, 2, 0, 2}, 22},
		{"f6;fi11;i5;in1;n10;", "fifin", []int{0, 2, 0, 3}, 18},
		{"f6;fi10;in12;", "fin", []int{0, 2}, 18}, // cannot be set
		{"f6;fi10;in12;", "finfi", []int{0, 2, 1}, 28},
		{"a1;ab1;bc1;", "abc", []int{0, 2}, 2},
		{"a4;aa8;aaa12;", "aaaaaa", []int{0, 0, 0, 0, 0, 0}, 24},
		{"a4;aa7;aaa12;", "aaaaa", []int{0, 1, 1}, 18},
		{"a5;aa7;aaa9;", "aaaa", []int{0, 2}, 14}, // and aa aa, aaa a
		{"a54;aa54;aaa54;", "aaaaaaaaaaaaaaaa", []int{0, 2, 2, 2, 2, 2}, 324},
		{"aa1;aaa1;", "aaaaaaa", []int{0, 0, 1}, 3},
		{"aa1;aaa1;", "a", nil, 0},
		{"f6;fi5;", "fi", []int{1}, 5},
		{"f6;fi5;", "fif", []int{1, 0}, 11},
		// No way goes on behind ab, however wide a is.
		{"a9;ab10;b8;", "abc", nil, 0},
		{"a9;ab10;abc12;b8;", "abc", []int{2}, 12},
		{"f6;fi10;i5;n10;", "fan", nil, 0},
		{"m18;", "m", []int{0}, 18},
		{"m54;", "mmmmmmmmmmmmmmmm", []int{0, 0, 0, 0, 0, 0, 0, 0, 0, 0, 0, 0, 0, 0, 0, 0}, 864},
		{"m18;", "n", nil, 0},
	}
	for _, c := range cases {
		f := font(strings.Split(strings.TrimSuffix(c.font, ";"), ";")...)
		l, n, ok := impl.NarrowestWay(f, c.word)
		if !slices.Equal(l, c.sorts) || n != c.width || ok != (c.sorts != nil) {
			t.Errorf("%s in %s: %v %d %v", c.word, c.font, l, n, ok)
		}
	}
}

func TestMissingLetters(t *testing.T) {
	f := exampleFont()
	cases := []struct {
		words []string
		want  string
	}{
		{nil, ""},
		{[]string{"fin"}, ""},
		{[]string{"fan", "cab"}, "abc"},
		{[]string{"zzz", "a", "zaz"}, "az"},
		{[]string{"abcdefghijklmnop", "qrstuvwxyz"}, "abcdeghjklmopqrstuvwxyz"},
		{manyWords(40), ""},
		{[]string{"ffffffffffffffff"}, ""},
	}
	for _, c := range cases {
		if s, ok := impl.MissingLetters(f, c.words); s != c.want || !ok {
			t.Errorf("%v: %q %v", c.words, s, ok)
		}
	}
	// A ligature is no sort for its letters, though the word can be set with it.
	if s, ok := impl.MissingLetters(font("fi10", "n10"), []string{"fin"}); s != "fi" || !ok {
		t.Error(s, ok)
	}
	if s, ok := impl.MissingLetters(font("a1"), []string{"a", "aa"}); s != "" || !ok {
		t.Error(s, ok)
	}
	for _, words := range [][]string{manyWords(41), manyWords(400), {"fan", ""}, {"", "fan"}} {
		if s, ok := impl.MissingLetters(f, words); s != "" || ok {
			t.Errorf("%d words: %q %v", len(words), s, ok)
		}
	}
}

func TestWithSort(t *testing.T) {
	f := exampleFont()
	cases := []struct{ add, want string }{
		{"a9", "a9;f6;fi10;i5;n10;"},
		{"fa9", "f6;fa9;fi10;i5;n10;"},
		{"ffi9", "f6;ffi9;fi10;i5;n10;"},
		{"fin9", "f6;fi10;fin9;i5;n10;"},
		{"m18", "f6;fi10;i5;m18;n10;"},
		{"z54", "f6;fi10;i5;n10;z54;"},
	}
	for _, c := range cases {
		l, ok := impl.WithSort(f, font(c.add)[0])
		if s, good := impl.FontText(l); s != c.want || !ok || !good {
			t.Errorf("%s: %v %v", c.add, l, ok)
		}
	}
	for _, s := range append(font("f6", "f7", "fi10", "fi1", "n10", "i54"), invalidSorts...) {
		if l, ok := impl.WithSort(f, s); len(l) != 0 || ok {
			t.Errorf("%.20q %d: %v %v", s.Code, s.Set, l, ok)
		}
	}
	if l, ok := impl.WithSort(pairs(31), pairs(32)[31]); !slices.Equal(l, pairs(32)) || !ok {
		t.Error("to MaxSorts sorts", l, ok)
	}
	if l, ok := impl.WithSort(pairs(32), impl.Sort{Code: "z", Set: 1}); len(l) != 0 || ok {
		t.Error("to one more than MaxSorts", l, ok)
	}
	if l, ok := impl.WithSort(font("m18"), impl.Sort{Code: "a", Set: 1}); !slices.Equal(l, font("a1", "m18")) || !ok {
		t.Error("to a single sort", l, ok)
	}
}

func TestWithoutSort(t *testing.T) {
	f := exampleFont()
	for i, s := range f {
		want := slices.Delete(slices.Clone(f), i, i+1)
		if l, ok := impl.WithoutSort(f, s.Code); !slices.Equal(l, want) || !ok {
			t.Errorf("%s: %v %v", s.Code, l, ok)
		}
	}
	for _, code := range append([]string{"a", "z", "ff", "fin", "in"}, invalidWords...) {
		if l, ok := impl.WithoutSort(f, code); len(l) != 0 || ok {
			t.Errorf("%.20q: %v %v", code, l, ok)
		}
	}
	if l, ok := impl.WithoutSort(font("m18"), "m"); len(l) != 0 || ok {
		t.Error("the only one", l, ok)
	}
	if l, ok := impl.WithoutSort(font("a1", "m18"), "a"); !slices.Equal(l, font("m18")) || !ok {
		t.Error("one of two", l, ok)
	}
	if l, ok := impl.WithoutSort(pairs(32), "bf"); !slices.Equal(l, pairs(31)) || !ok {
		t.Error("one of MaxSorts", l, ok)
	}
}

func TestFontText(t *testing.T) {
	cases := []struct {
		f    []impl.Sort
		want string
	}{
		{exampleFont(), "f6;fi10;i5;n10;"},
		{font("m18"), "m18;"},
		{font("a1", "aaa54", "b9"), "a1;aaa54;b9;"},
	}
	for _, c := range cases {
		if s, ok := impl.FontText(c.f); s != c.want || !ok {
			t.Errorf("%v: %q %v", c.f, s, ok)
		}
		if l, ok := impl.ParseFont(c.want); !slices.Equal(l, c.f) || !ok {
			t.Errorf("%q: %v %v", c.want, l, ok)
		}
	}
	s, ok := impl.FontText(pairs(32))
	if l, good := impl.ParseFont(s); !slices.Equal(l, pairs(32)) || !ok || !good {
		t.Error("MaxSorts sorts", s, l)
	}
}

var invalidFontTexts = []string{
	"", ";", "f", "6", "f;", "6;", "f6", "f6;i5", ";f6;", "f6;;", "f6;;i5;", "f6; i5;", " f6;", "f6; ", "f6 ;", "f 6;", "f6;\n",
	"f06;", "f006;", "f+6;", "f-6;", "f-0;", "f0;", "f00;", "f55;", "f054;", "f6.0;", "f6x;", "f0x6;", "f6_0;", "f1e1;", "f٣;", "f99999999999999999999;", "f18446744073709551622;", "f-18446744073709551610;",
	"F6;", "ffff6;", "ä6;", "\xff6;", "f6\x00;", "6f;", "f6i5;", "f6,i5;", "i5;f6;", "f6;f6;", "f6;f7;", "fi10;f6;", "f6;i55;", "f6;i0;",
	"f6:", "f6;i", "f6;5;", "f6;i;",
}

func TestParseFontOfInvalidTexts(t *testing.T) {
	var long strings.Builder
	for _, s := range pairs(33) {
		long.WriteString(s.Code + strconv.Itoa(s.Set) + ";")
	}
	texts := append(slices.Clone(invalidFontTexts), long.String(), strings.Repeat("a1;", 100000), strings.Repeat(";", 100000), strings.Repeat("1", 100000), "a"+strings.Repeat("0", 100000)+"1;")
	for _, s := range texts {
		if l, ok := impl.ParseFont(s); len(l) != 0 || ok {
			t.Errorf("%.40q: %v %v", s, l, ok)
		}
	}
}

// TestParseFontOfChangedTexts checks that a text is read just if it is the text of the font that is read.
func TestParseFontOfChangedTexts(t *testing.T) {
	r := rand.New(rand.NewSource(5))
	parsed := 0
	for range 40000 {
		text := []byte("f6;fi10;i5;n10;")
		for range 1 + r.Intn(2) {
			at := r.Intn(len(text))
			switch b := "0123456789;;;abfinz +-A"[r.Intn(23)]; r.Intn(3) {
			case 0:
				text[at] = b
			case 1:
				text = slices.Insert(text, at, b)
			case 2:
				text = slices.Delete(text, at, at+1)
			}
		}
		l, ok := impl.ParseFont(string(text))
		if !ok {
			if len(l) != 0 || isFontText(string(text)) {
				t.Fatalf("%q: %v, not read", text, l)
			}
			continue
		}
		parsed++
		if s, good := impl.FontText(l); s != string(text) || !good || !isFontText(s) {
			t.Fatalf("%q: %v with the text %q", text, l, s)
		}
	}
	if parsed < 1000 {
		t.Error("only", parsed, "texts were read")
	}
}

// isFontText tells of short texts whether they are those of a font, by trying all widths for each part.
func isFontText(text string) bool {
	if !strings.HasSuffix(text, ";") {
		return false
	}
	last := ""
	for _, part := range strings.Split(strings.TrimSuffix(text, ";"), ";") {
		code := strings.TrimRight(part, "0123456789")
		known := false
		for set := 1; set <= 54; set++ {
			known = known || part == code+strconv.Itoa(set)
		}
		if !known || len(code) < 1 || len(code) > 3 || strings.Trim(code, "abcdefghijklmnopqrstuvwxyz") != "" || code <= last {
			return false
		}
		last = code
	}
	return true
}

// allWays returns all lists of sorts whose Codes make up a word, in lexicographic order.
func allWays(f []impl.Sort, word string) [][]int {
	if word == "" {
		return [][]int{nil}
	}
	var ways [][]int
	for i, s := range f {
		if rest, ok := strings.CutPrefix(word, s.Code); ok {
			for _, way := range allWays(f, rest) {
				ways = append(ways, append([]int{i}, way...))
			}
		}
	}
	return ways
}

func randomLetters(r *rand.Rand, most int) string {
	b := make([]byte, 1+r.Intn(most))
	for i := range b {
		b[i] = "abc"[r.Intn(3)]
	}
	return string(b)
}

func randomFont(r *rand.Rand) []impl.Sort {
	var f []impl.Sort
	for range 1 + r.Intn(12) {
		s := impl.Sort{Code: randomLetters(r, 3), Set: 1 + r.Intn(9)}
		if !slices.ContainsFunc(f, func(x impl.Sort) bool { return x.Code == s.Code }) {
			f = append(f, s)
		}
	}
	slices.SortFunc(f, func(a, b impl.Sort) int { return strings.Compare(a.Code, b.Code) })
	return f
}

func codesOf(f []impl.Sort, sorts []int) string {
	word := ""
	for _, i := range sorts {
		word += f[i].Code
	}
	return word
}

func widthOf(f []impl.Sort, sorts []int) int {
	width := 0
	for _, i := range sorts {
		width += f[i].Set
	}
	return width
}

// checkSetWord checks SortsOfWord and what is told of the same sorts, for one word.
func checkSetWord(t *testing.T, f []impl.Sort, word string) bool {
	sorts, ok := impl.SortsOfWord(f, word)
	at := 0
	var ligatures []string
	for _, i := range sorts {
		for _, s := range f {
			if strings.HasPrefix(word[at:], s.Code) && len(s.Code) > len(f[i].Code) {
				t.Fatalf("%s in %v: %v, though %s is longer", word, f, sorts, s.Code)
			}
		}
		if len(f[i].Code) > 1 {
			ligatures = append(ligatures, f[i].Code)
		}
		at += len(f[i].Code)
	}
	if ok && codesOf(f, sorts) != word || !ok && len(sorts) != 0 {
		t.Fatalf("%s in %v: %v %v", word, f, sorts, ok)
	}
	if n, good := impl.WidthOfWord(f, word); n != widthOf(f, sorts) || good != ok {
		t.Fatalf("width of %s in %v: %d %v", word, f, n, good)
	}
	if l, good := impl.LigaturesIn(f, word); !slices.Equal(l, ligatures) || good != ok {
		t.Fatalf("ligatures of %s in %v: %v %v", word, f, l, good)
	}
	return ok
}

// checkNarrowest compares NarrowestWay with all ways there are.
func checkNarrowest(t *testing.T, f []impl.Sort, word string) bool {
	ways := allWays(f, word)
	l, n, ok := impl.NarrowestWay(f, word)
	if len(ways) == 0 {
		if len(l) != 0 || n != 0 || ok {
			t.Fatalf("%s in %v: %v %d %v", word, f, l, n, ok)
		}
		return false
	}
	best := ways[0]
	for _, way := range ways {
		if widthOf(f, way) < widthOf(f, best) {
			best = way
		}
	}
	if !slices.Equal(l, best) || n != widthOf(f, best) || !ok {
		t.Fatalf("%s in %v: %v %d %v, best %v", word, f, l, n, ok, best)
	}
	return true
}

func TestRandomFontsAndWords(t *testing.T) {
	r := rand.New(rand.NewSource(1))
	set, made := 0, 0
	for range 6000 {
		f := randomFont(r)
		word := randomLetters(r, 9)
		isSet, isMade := checkSetWord(t, f, word), checkNarrowest(t, f, word)
		if isSet && !isMade {
			t.Fatalf("%s in %v is set, but not made", word, f)
		}
		if isSet {
			set++
		} else if isMade {
			made++
		}
	}
	if set < 500 || made < 50 {
		t.Error("too few words:", set, "set", made, "made up in another way alone")
	}
}

func TestRandomFontsAndTexts(t *testing.T) {
	r := rand.New(rand.NewSource(2))
	for range 3000 {
		f := randomFont(r)
		text, ok := impl.FontText(f)
		if l, good := impl.ParseFont(text); !slices.Equal(l, f) || !ok || !good {
			t.Fatalf("%v has the text %q, which is read as %v", f, text, l)
		}
		s := impl.Sort{Code: randomLetters(r, 3), Set: 1 + r.Intn(54)}
		n, is := impl.SetOfCode(f, s.Code)
		more, added := impl.WithSort(f, s)
		if added == is || added && !impl.IsFont(more) || is && n == 0 {
			t.Fatalf("%v in %v: %d %v, then %v %v", s, f, n, is, more, added)
		}
		if !added {
			continue
		}
		if n, is := impl.SetOfCode(more, s.Code); n != s.Set || !is {
			t.Fatalf("%v in %v: %d %v", s, more, n, is)
		}
		if l, ok := impl.WithoutSort(more, s.Code); !slices.Equal(l, f) || !ok {
			t.Fatalf("%v without %v: %v", more, s, l)
		}
	}
}

// checkRefused checks that no function on a font takes these arguments.
func checkRefused(t *testing.T, f []impl.Sort, word string) {
	t.Helper()
	if l, ok := impl.SortsOfWord(f, word); len(l) != 0 || ok {
		t.Errorf("sorts of %.20q in %.100v: %v %v", word, f, l, ok)
	}
	if n, ok := impl.WidthOfWord(f, word); n != 0 || ok {
		t.Errorf("width of %.20q in %.100v: %v %v", word, f, n, ok)
	}
	if l, n, ok := impl.NarrowestWay(f, word); len(l) != 0 || n != 0 || ok {
		t.Errorf("narrowest way of %.20q in %.100v: %v %v %v", word, f, l, n, ok)
	}
	if l, ok := impl.LigaturesIn(f, word); len(l) != 0 || ok {
		t.Errorf("ligatures of %.20q in %.100v: %v %v", word, f, l, ok)
	}
	for _, words := range [][]string{{word}, {"fin", word}, {word, "fin"}, append(manyWords(39), word)} {
		if s, ok := impl.MissingLetters(f, words); s != "" || ok {
			t.Errorf("missing letters of %.20q in %.100v: %v %v", word, f, s, ok)
		}
	}
}

func TestInvalidFonts(t *testing.T) {
	for _, f := range invalidFonts() {
		checkRefused(t, f, "fin")
		checkRefused(t, f, "a")
		if s, ok := impl.MissingLetters(f, nil); s != "" || ok {
			t.Errorf("missing letters of no words in %.100v: %v %v", f, s, ok)
		}
		for _, code := range []string{"f", "fi", "a", "n", "aa"} {
			if n, ok := impl.SetOfCode(f, code); n != 0 || ok {
				t.Errorf("width of %s in %.100v: %v %v", code, f, n, ok)
			}
			if l, ok := impl.WithoutSort(f, code); len(l) != 0 || ok {
				t.Errorf("%.100v without %s: %v %v", f, code, l, ok)
			}
		}
		if l, ok := impl.WithSort(f, impl.Sort{Code: "m", Set: 18}); len(l) != 0 || ok {
			t.Errorf("%.100v with m: %v %v", f, l, ok)
		}
		if s, ok := impl.FontText(f); s != "" || ok {
			t.Errorf("text of %.100v: %v %v", f, s, ok)
		}
	}
}

func TestInvalidWords(t *testing.T) {
	full := font("f6", "fi10", "i5", "n10")
	for _, word := range invalidWords {
		checkRefused(t, full, word)
		checkRefused(t, invalidFonts()[0], word)
	}
	// Sixteen letters are a word, seventeen are none.
	if _, ok := impl.SortsOfWord(full, strings.Repeat("f", 16)); !ok {
		t.Error("a word of 16 letters")
	}
}

// TestArgumentsStay calls every function with lists that have spare capacity, and changes the results.
func TestArgumentsStay(t *testing.T) {
	spare := impl.Sort{Code: "zz", Set: 1}
	for _, given := range append(invalidFonts(), exampleFont(), font("m18"), pairs(32), pairs(31)) {
		f, fontStays := guarded(t, "font", given, spare)
		words, wordsStay := guarded(t, "words", []string{"fin", "fifi", "nab"}, "zz")
		for range 2 {
			useEverything(t, f, words)
			fontStays()
			wordsStay()
		}
	}
}

func useEverything(t *testing.T, f []impl.Sort, words []string) {
	t.Helper()
	impl.IsFont(f)
	impl.FontText(f)
	impl.MissingLetters(f, words)
	for _, word := range append(invalidWords, "fin", "fifi", "aa") {
		impl.SetOfCode(f, word)
		impl.WidthOfWord(f, word)
		overwrite(impl.SortsOfWord(f, word))
		overwrite(impl.LigaturesIn(f, word))
		l, _, ok := impl.NarrowestWay(f, word)
		overwrite(l, ok)
		without, _ := impl.WithoutSort(f, word)
		with, _ := impl.WithSort(f, impl.Sort{Code: word, Set: 9})
		if shareMemory(without, f) || shareMemory(with, f) {
			t.Errorf("%.100v and %.20q: the result shares memory with the font", f, word)
		}
		overwrite(without, true)
		overwrite(with, true)
	}
}

// overwrite clears a result and what is behind it.
func overwrite[T any](l []T, ok bool) {
	clear(l[:cap(l)])
}

// TestResultsAreNew checks that the same call gives the same result when an earlier one has been overwritten.
func TestResultsAreNew(t *testing.T) {
	f := exampleFont()
	for range 2 {
		sorts, _ := impl.SortsOfWord(f, "fin")
		way, _, _ := impl.NarrowestWay(f, "fin")
		ligatures, _ := impl.LigaturesIn(f, "fin")
		read, _ := impl.ParseFont("f6;fi10;i5;n10;")
		if !slices.Equal(sorts, []int{1, 3}) || !slices.Equal(way, []int{1, 3}) || !slices.Equal(ligatures, []string{"fi"}) || !slices.Equal(read, f) {
			t.Error(sorts, way, ligatures, read)
		}
		overwrite(sorts, true)
		overwrite(way, true)
		overwrite(ligatures, true)
		overwrite(read, true)
	}
}
