package tests

import (
	"math"
	"math/rand"
	"regexp"
	"slices"
	"strings"
	"testing"

	"loop.example/g01054/impl"
)

// patternForm and exceptionForm tell what patterns and exceptions look like, but for the digit that a pattern must have and the number of letters of an exception.
var (
	patternForm   = regexp.MustCompile(`^[1-9]?([a-z][1-9]?){1,6}$`)
	exceptionForm = regexp.MustCompile(`^[a-z](-?[a-z])+$`)
)

func isPatternText(p string) bool {
	return patternForm.MatchString(p) && strings.ContainsAny(p, "123456789")
}

func isExceptionText(e string) bool {
	return exceptionForm.MatchString(e) && len(strings.ReplaceAll(e, "-", "")) <= 16
}

func examplePatterns() []string { return []string{"a1b", "b2a"} }

func exampleExceptions() []string { return []string{"bab-ab", "a-b-a", "abba"} }

const longestWord = "abcdefghijklmnop"

// hyphened returns a text with a hyphen between any two letters.
func hyphened(word string) string { return strings.Join(strings.Split(word, ""), "-") }

// manyPatterns returns different patterns.
func manyPatterns(n int) []string {
	var patterns []string
	for i := range n {
		patterns = append(patterns, string([]byte{byte('1' + i%9), byte('a' + i%26), byte('a' + i/26)}))
	}
	return patterns
}

// manyExceptions returns exceptions of different words.
func manyExceptions(n int) []string {
	var exceptions []string
	for i := range n {
		e := string([]byte{'a', 'b', byte('a' + i/26), '-', byte('a' + i%26), 'c'})
		exceptions = append(exceptions, e)
	}
	return exceptions
}

var validPatterns = []string{
	"1a", "a1", "1a1", "9a", "a9", "5z5", "9z9", "a1b", "b2a", "1ab", "ab1", "1a2b3", "zz9", "abc1", "1abc", "a1bc2d", "abcde9", "9abcde",
	"abcdef1", "1abcdef", "abc5def", "1a2b3c4d5e6f7", "9z9z9z9z9z9z9", "1aaaaaa1", "aaaaa1a", "8zzzzzz",
}

var invalidPatterns = []string{
	"", "1", "9", "12", "0", "123456789", // no letter
	"a", "z", "ab", "abc", "abcdef", // no digit
	"abcdefg", "1abcdefg", "abcdefg1", "abc1defg", "1a2b3c4d5e6f7g", "1a2b3c4d5e6f7g8", "aaaaaaa1", strings.Repeat("a1", 7), strings.Repeat("a1", 1000), strings.Repeat("a", 1000) + "1", // more than 6 letters
	"11a", "12a", "a11", "a12", "a12b", "a99b", "ab1c12", "123a", "a1b22", "1a2b33c", "a" + strings.Repeat("1", 1000), // digits side by side
	"0a", "a0", "a0b", "0a1", "1a0", "a0b1", "a1b0", "10a", "01a", "a10", "a01", "a10b", "a01b", // a digit 0
	"A1", "a1B", "1A", "Z9", "a1 ", " a1", "a 1", "a1\n", "\na1", "a-1", "-1a", "a1-", "+1a", ".a1", "a1.", "a.1b", "a1,b2", "a/", "/a", "a:", ":a", "`1", "1`", "{1", "1{", "a1{", "a1`", "[1", "@1",
	"\u00e41", "a\u00e41", "a1\u00e4", "\ufb011", "1\ufb01", "a\uff11", "\uff11a", "a\u0661", "\uff411", "a1\xff", "\xffa1", "\xc31a", "a1\x00", "\x00a1", "a\x011", "\u01611", "a\u01311",
}

var validExceptions = []string{
	"ab", "a-b", "zz", "z-z", "abc", "a-bc", "ab-c", "a-b-c", "bab-ab", "ba-bab", "babab", "b-a-b-a-b", "abba", "ab-ba",
	longestWord, "a-" + longestWord[1:], longestWord[:15] + "-p", hyphened(longestWord), "zzzzzzzzzzzzzzzz", "abcdefgh-ijklmnop",
}

var invalidExceptions = []string{
	"", "-", "--", "---", // no letter
	"a", "z", "a-", "-a", "-a-", "a--", // one letter
	"-ab", "-a-b", "-bab-ab", "-" + longestWord, "ab-", "a-b-", "bab-ab-", longestWord + "-", "-ab-", // a hyphen at the beginning, or the end
	"a--b", "ab--c", "bab--ab", "a--b-c", "a-b--c", "a---b", "--ab", "ab--", "abcdefgh--ijklmnop", "a" + strings.Repeat("-", 1000) + "b", // hyphens side by side
	longestWord + "q", hyphened(longestWord + "q"), longestWord + "-q", "a-" + longestWord, "abcdefgh-ijklmnopq", strings.Repeat("a", 1000), strings.Repeat("a-", 1000) + "a", // more than 16 letters
	"Ab", "aB", "a-B", "A-b", "a1", "a1b", "a-1", "1-a", "a b", "a b-a", " ab", "ab ", "ab\n", "a-b\n", "a_b", "a.b", "a+b", "a`", "a{", "{-a", "`-a", "a,b",
	"a\u2010b", "a\u2013b", "a\u00adb", "\u00e4b", "a-\u00e4", "a\ufb01", "\ufb01", "ab\xff", "\xff-a", "a-b\x00", "\x00ab", "\u0161\u0161", "a-\u0161",
}

// invalidPatternLists returns what are no lists of patterns.
func invalidPatternLists() [][]string {
	lists := [][]string{manyPatterns(21), manyPatterns(200), slices.Repeat([]string{"a1b"}, 21), slices.Repeat([]string{"a1b"}, 1000), make([]string, 20), make([]string, 21)}
	for _, p := range invalidPatterns {
		lists = append(lists, []string{p}, []string{p, "a1b", "b2a"}, []string{"a1b", p, "b2a"}, append(examplePatterns(), p), append(manyPatterns(19), p))
	}
	return lists
}

// invalidExceptionLists returns what are no lists of exceptions.
func invalidExceptionLists() [][]string {
	lists := [][]string{
		manyExceptions(21), manyExceptions(200), slices.Repeat([]string{"ab"}, 1000), make([]string, 20), make([]string, 21),
		append(manyExceptions(20), "ab"),
		// The same without their hyphens.
		{"ab", "ab"}, {"a-b", "a-b"}, {"ab", "a-b"}, {"a-b", "ab"}, {"bab-ab", "ba-bab"}, {"bab-ab", "abba", "b-a-b-a-b"}, {"abba", "babab", "bab-ab"},
		{"abba", "babab", "ab-ba"}, {longestWord, hyphened(longestWord)}, append(manyExceptions(19), "abaac"), append(manyExceptions(19), "a-b-a-s-c"),
	}
	for _, e := range invalidExceptions {
		lists = append(lists, []string{e}, []string{e, "bab-ab", "abba"}, []string{"bab-ab", e, "abba"}, append(exampleExceptions(), e), append(manyExceptions(19), e))
	}
	return lists
}

var validPatternLists = [][]string{
	nil, {}, {"a1b", "b2a"}, {"1a"}, {"a1"}, {"1a1"}, {"1a2b3"}, {"1a", "1b", "1c"}, {"a1b", "a2b", "a3b"}, {"a1b", "a1b"}, slices.Repeat([]string{"b1a"}, 20),
	manyPatterns(20), manyPatterns(1), {"abcdef9"}, {"9abcdef"}, {"1a2b3c4d5e6f7"}, {"a9", "9z"}, validPatterns[:20],
}

var validExceptionLists = [][]string{
	nil, {}, {"bab-ab", "a-b-a", "abba"}, {"ab"}, {"a-b"}, {"babab"}, {"b-a-b-a-b"}, {longestWord}, {hyphened(longestWord)}, {"ab", "abab", "ababab"}, {"ab", "ba"}, manyExceptions(20), manyExceptions(19), manyExceptions(1),
}

var validWords = []string{
	"a", "b", "z", "ab", "ba", "zz", "aba", "bab", "abc", "abab", "abba", "baba", "babab", "abcde", "abcdef", "aaaaaaaa", "abcdefg", longestWord, "abababababababab", "aaaaaaaaaaaaaaaa", "abaac",
}

func TestHyphenConstants(t *testing.T) {
	if impl.MaxPatterns != 20 {
		t.Error(impl.MaxPatterns)
	}
}

func TestIsPattern(t *testing.T) {
	for _, p := range validPatterns {
		if !impl.IsPattern(p) {
			t.Errorf("%q is a pattern", p)
		}
	}
	for _, p := range invalidPatterns {
		if impl.IsPattern(p) {
			t.Errorf("%.100q is no pattern", p)
		}
	}
	for n := range 20 {
		letters, both := strings.Repeat("a", n), strings.Repeat("1a", n)
		for _, p := range []string{"1" + letters, letters + "1", both, both + "1"} {
			if impl.IsPattern(p) != (n >= 1 && n <= 6) {
				t.Errorf("%q: %d letters", p, n)
			}
		}
		if impl.IsPattern(letters) {
			t.Errorf("%q has no digit", letters)
		}
	}
	for b := range 256 {
		letter, digit := b >= 'a' && b <= 'z', b >= '1' && b <= '9'
		c := string([]byte{byte(b)})
		if impl.IsPattern(c+"1") != letter || impl.IsPattern("1"+c) != letter || impl.IsPattern("a1"+c) != letter || impl.IsPattern(c+"1a") != letter || impl.IsPattern(c) {
			t.Errorf("%q as a letter", c)
		}
		if impl.IsPattern("a"+c) != digit || impl.IsPattern(c+"a") != digit || impl.IsPattern("a"+c+"b") != digit || impl.IsPattern("abcdef"+c) != digit {
			t.Errorf("%q as a digit", c)
		}
	}
}

// allTexts calls a function with all texts of at most so many of the characters.
func allTexts(characters string, most int, use func(text string)) {
	var add func(text string)
	add = func(text string) {
		use(text)
		if len(text) == most {
			return
		}
		for i := range len(characters) {
			add(text + characters[i:i+1])
		}
	}
	add("")
}

func TestAllShortPatterns(t *testing.T) {
	patterns := 0
	allTexts("az019-", 7, func(p string) {
		valid := isPatternText(p)
		if impl.IsPattern(p) != valid {
			t.Errorf("%q is a pattern: %v", p, !valid)
		}
		if valid {
			patterns++
		}
	})
	if patterns < 5000 {
		t.Error("too few patterns:", patterns)
	}
}

func TestAllShortExceptions(t *testing.T) {
	exceptions := 0
	check := func(e string) {
		valid := isExceptionText(e)
		words, ok := impl.WordsOfExceptions([]string{e})
		if ok != valid || len(words) != 0 != valid || valid && words[0] != strings.ReplaceAll(e, "-", "") {
			t.Errorf("%q: %q %v", e, words, ok)
		}
		list, ok := impl.NewException(nil, e)
		if ok != valid || len(list) != 0 != valid || valid && list[0] != e {
			t.Errorf("%q: new %q %v", e, list, ok)
		}
		if valid {
			exceptions++
		}
	}
	allTexts("az-", 9, check)
	allTexts("A1- ab\xe4", 4, check)
	if exceptions < 2000 {
		t.Error("too few exceptions:", exceptions)
	}
	for b := range 256 {
		c := string([]byte{byte(b)})
		letter := b >= 'a' && b <= 'z'
		for _, e := range []string{c + "bc", "abc" + c, c + "-b", "b-" + c} {
			if _, ok := impl.WordsOfExceptions([]string{e}); ok != letter {
				t.Errorf("%q: %v", e, ok)
			}
		}
		if _, ok := impl.WordsOfExceptions([]string{"ab" + c + "cd"}); ok != (letter || b == '-') {
			t.Errorf("%q between letters: %v", c, ok)
		}
	}
	for n := range 40 {
		for _, e := range []string{strings.Repeat("a", n), hyphened(strings.Repeat("a", n))} {
			if _, ok := impl.WordsOfExceptions([]string{e}); ok != (n >= 2 && n <= 16) {
				t.Errorf("%d letters: %v", n, ok)
			}
		}
	}
}

func TestAreExceptions(t *testing.T) {
	for _, e := range validExceptions {
		if words, ok := impl.WordsOfExceptions([]string{e}); len(words) != 1 || words[0] != strings.ReplaceAll(e, "-", "") || !ok {
			t.Errorf("%q: %q %v", e, words, ok)
		}
	}
	for _, e := range invalidExceptions {
		if words, ok := impl.WordsOfExceptions([]string{e}); words != nil || ok {
			t.Errorf("%.100q: %.100q %v", e, words, ok)
		}
	}
	for n := range 30 {
		words, ok := impl.WordsOfExceptions(manyExceptions(n))
		if ok != (n <= 20) || ok && len(words) != n {
			t.Error("exceptions", n, words, ok)
		}
		if _, ok := impl.ValuesOf(manyPatterns(n), "ab"); ok != (n <= 20) {
			t.Error("patterns", n, ok)
		}
		if _, ok := impl.ValuesOf(slices.Repeat([]string{"a1b"}, n), "ab"); ok != (n <= 20) {
			t.Error("equal patterns", n, ok)
		}
	}
}

func TestWordsOfExceptions(t *testing.T) {
	cases := []struct{ exceptions, want string }{
		{"", ""},
		{"ab", "ab"},
		{"a-b", "ab"},
		{"babab", "babab"},
		{"bab-ab", "babab"},
		{"b-a-b-a-b", "babab"},
		{"bab-ab a-b-a abba", "babab aba abba"},
		{"z-z a-b ba", "zz ab ba"},
		{"ab abc a-bcd ab-cde", "ab abc abcd abcde"},
		{hyphened(longestWord) + " " + longestWord[1:], longestWord + " " + longestWord[1:]},
	}
	for _, c := range cases {
		if words, ok := impl.WordsOfExceptions(strings.Fields(c.exceptions)); !slices.Equal(words, strings.Fields(c.want)) || !ok {
			t.Errorf("%s: %q %v, want %s", c.exceptions, words, ok, c.want)
		}
	}
}

// hyphenCases tell the values of a word, and its parts with hyphens between them.
var hyphenCases = []struct{ patterns, exceptions, word, values, text string }{
	{"a1b b2a", "", "babab", "2 1 2 1", "ba-bab"},
	{"a1b b2a", "bab-ab", "babab", "2 1 2 1", "bab-ab"},
	{"a1b b2a", "bab-ab", "abab", "1 2 1", "abab"},
	{"a1b b2a", "bab-ab", "bababa", "2 1 2 1 2", "ba-ba-ba"},
	// No pattern, or none that is in the word.
	{"", "", "babab", "0 0 0 0", "babab"},
	{"c1d 1e", "", "babab", "0 0 0 0", "babab"},
	// Short words.
	{"a1b b2a", "", "a", "", "a"},
	{"1a1", "", "a", "", "a"},
	{"1a1", "", "aa", "1", "aa"},
	{"1a1", "", "aaa", "1 1", "aaa"},
	{"1a1", "", "aaaa", "1 1 1", "aa-aa"},
	{"1a1", "", "aaaaa", "1 1 1 1", "aa-a-aa"},
	{"1a1", "", "aaaaaaaaaaaaaaaa", "1 1 1 1 1 1 1 1 1 1 1 1 1 1 1", "aa-a-a-a-a-a-a-a-a-a-a-a-a-aa"},
	{"1a1", "", "ab", "1", "ab"},
	{"1a1", "", "ba", "1", "ba"},
	{"1b", "", "ab", "1", "ab"},
	{"b1", "", "abc", "0 1", "abc"},
	{"1b", "", "abc", "1 0", "abc"},
	{"1b", "", "aabc", "0 1 0", "aa-bc"},
	// Digits before the first letter, behind the last one, and between.
	{"1c", "", "abcdef", "0 1 0 0 0", "ab-cdef"},
	{"c1", "", "abcdef", "0 0 1 0 0", "abc-def"},
	{"1c1", "", "abcdef", "0 1 1 0 0", "ab-c-def"},
	{"1a2b3c4d5e6f7", "", "abcdef", "2 3 4 5 6", "ab-cd-ef"},
	{"1a2b3c4d5e6f7", "", "zabcdefz", "1 2 3 4 5 6 7", "zab-cd-efz"},
	{"1a2b3c4d5e6f7", "", "zzabcdefzz", "0 1 2 3 4 5 6 7 0", "zz-ab-cd-ef-zz"},
	{"9abcdef", "", "xxabcdefxx", "0 9 0 0 0 0 0 0 0", "xx-abcdefxx"},
	{"abcdef9", "", "xxabcdefxx", "0 0 0 0 0 0 0 9 0", "xxabcdef-xx"},
	// Values outside the places of the word.
	{"1ab", "", "abab", "0 1 0", "ab-ab"},
	{"ab1", "", "abab", "0 1 0", "ab-ab"},
	{"9ab9", "", "ab", "0", "ab"},
	{"1abab1", "", "abab", "0 0 0", "abab"},
	{"9a", "", "abcd", "0 0 0", "abcd"},
	{"d9", "", "abcd", "0 0 0", "abcd"},
	// At the beginning, at the end and several times, and overlapping themselves.
	{"ab1c", "", "abcdabcd", "0 1 0 0 0 1 0", "ab-cdab-cd"},
	{"a1a", "", "aaaa", "1 1 1", "aa-aa"},
	{"a2a1a", "", "aaaaa", "2 2 2 1", "aaaaa"},
	{"a1a2a", "", "aaaaa", "1 2 2 2", "aaaaa"},
	{"aba3", "", "abababa", "0 0 3 0 3 0", "aba-ba-ba"},
	{"1aba2", "", "abababa", "0 1 2 1 2 0", "ab-ab-aba"},
	// Different values at the same place.
	{"a1b a2b", "", "xaby", "0 2 0", "xaby"},
	{"a2b a1b", "", "xaby", "0 2 0", "xaby"},
	{"a2b a3b", "", "xaby", "0 3 0", "xa-by"},
	{"a3b a2b", "", "xaby", "0 3 0", "xa-by"},
	{"a1b xa2b", "", "xaby", "0 2 0", "xaby"},
	{"a1b 2b", "", "xaby", "0 2 0", "xaby"},
	{"a2 a1b a8by xa9b 2b", "", "xaby", "0 9 0", "xa-by"},
	{"a8b a9b a7b", "", "xaby", "0 9 0", "xa-by"},
	{"a9b a8b a9b", "", "xaby", "0 9 0", "xa-by"},
	{"a1b 3b", "", "xaby", "0 3 0", "xa-by"},
	{"a1 a1b xa2b", "", "aabxab", "1 1 0 0 2", "aa-bxab"},
	// Several patterns, overlapping and not.
	{"a1b c1d", "", "xabcdy", "0 1 0 1 0", "xa-bc-dy"},
	{"ab1c b2cd", "", "xabcdy", "0 0 2 0 0", "xabcdy"},
	{"ab1cd cd1ef", "", "abcdef", "0 1 0 1 0", "ab-cd-ef"},
	{"1abc 1bcd 1cde", "", "xxabcde", "0 1 1 1 0 0", "xx-a-b-cde"},
	// The same pattern twice.
	{"a1b a1b", "", "xaby", "0 1 0", "xa-by"},
	{"a1b a1b b2a b2a", "", "babab", "2 1 2 1", "ba-bab"},
	// Longer than the word, or than what is left of it.
	{"abcde1", "", "abcd", "0 0 0", "abcd"},
	{"ab1cde", "", "abcd", "0 0 0", "abcd"},
	{"cd1e", "", "abcd", "0 0 0", "abcd"},
	{"1cde", "", "abcd", "0 0 0", "abcd"},
	{"abcde1", "", "a", "", "a"},
	// All digits.
	{"a1b2c3d4e5 f6g7h8i9j", "", "abcdefghijk", "1 2 3 4 5 6 7 8 9 0", "abc-de-fg-hi-jk"},
	// Places with fewer than two letters before or behind them.
	{"a1b b2c d1e", "", "abcde", "1 2 0 1", "abcde"},
	{"a1b b1c d1e", "", "abcde", "1 1 0 1", "ab-cde"},
	{"a1bc", "", "abc", "1 0", "abc"},
	{"ab1c", "", "abc", "0 1", "abc"},
	// Exceptions.
	{"", "bab-ab", "babab", "0 0 0 0", "bab-ab"},
	{"", "b-a-b-a-b", "babab", "0 0 0 0", "ba-b-ab"},
	{"", "b-abab", "babab", "0 0 0 0", "babab"},
	{"", "baba-b", "babab", "0 0 0 0", "babab"},
	{"a1b b2a", "babab", "babab", "2 1 2 1", "babab"},
	{"1a 1b", "babab", "babab", "1 1 1 1", "babab"},
	{"1a 1b", "ba-bab", "babab", "1 1 1 1", "ba-bab"},
	{"1a 1b", "b-aba-b", "babab", "1 1 1 1", "babab"},
	{"1a 1b", "baba", "babab", "1 1 1 1", "ba-b-ab"},
	{"1a 1b", "bababa", "babab", "1 1 1 1", "ba-b-ab"},
	{"1a 1b", "ba-ba bab-aba", "babab", "1 1 1 1", "ba-b-ab"},
	{"", "a-b", "ab", "0", "ab"},
	{"1b", "ab", "ab", "1", "ab"},
	{"", "a-b-c", "abc", "0 0", "abc"},
	{"", "a-b-c-d", "abcd", "0 0 0", "ab-cd"},
	{"", "a-b", "a", "", "a"},
	{"", "ab-ba bab-ab a-b-a", "abba", "0 0 0", "ab-ba"},
	{"", "ab-ba bab-ab a-b-a", "babab", "0 0 0 0", "bab-ab"},
	{"", "ab-ba bab-ab a-b-a", "aba", "0 0", "aba"},
	{"", "ab-ba bab-ab a-b-a", "baba", "0 0 0", "baba"},
	{"1a2b3c4d5e6f7 g1h", hyphened(longestWord), longestWord, "2 3 4 5 6 7 1 0 0 0 0 0 0 0 0", "ab-c-d-e-f-g-h-i-j-k-l-m-n-op"},
	{"1a2b3c4d5e6f7 g1h", longestWord, longestWord, "2 3 4 5 6 7 1 0 0 0 0 0 0 0 0", longestWord},
	{"1a2b3c4d5e6f7 g1h", "abcdefgh-ijklmnop", longestWord, "2 3 4 5 6 7 1 0 0 0 0 0 0 0 0", "abcdefgh-ijklmnop"},
	{"1a2b3c4d5e6f7 g1h", "", longestWord, "2 3 4 5 6 7 1 0 0 0 0 0 0 0 0", "ab-cd-ef-g-hijklmnop"},
}

// placesIn returns the numbers of letters before each hyphen of a text.
func placesIn(text string) []int {
	var places []int
	letters := 0
	for _, c := range text {
		if c == '-' {
			places = append(places, letters)
		} else {
			letters++
		}
	}
	return places
}

// checkHyphens checks all that is told about a word by its text with hyphens.
func checkHyphens(t *testing.T, patterns, exceptions []string, word, text string) {
	t.Helper()
	places := placesIn(text)
	if l, ok := impl.HyphenPlaces(patterns, exceptions, word); !slices.Equal(l, places) || !ok {
		t.Errorf("%q, %q: places of %s: %v %v, want %v", patterns, exceptions, word, l, ok, places)
	}
	if l, ok := impl.PartsOfWord(patterns, exceptions, word); !slices.Equal(l, strings.Split(text, "-")) || strings.Join(l, "") != word || !ok {
		t.Errorf("%q, %q: parts of %s: %q %v, want %s", patterns, exceptions, word, l, ok, text)
	}
	if s, ok := impl.HyphenText(patterns, exceptions, word); s != text || !ok {
		t.Errorf("%q, %q: %s with hyphens: %s %v, want %s", patterns, exceptions, word, s, ok, text)
	}
	last, found := 0, false
	for at := -3; at <= 20; at++ {
		may := slices.Contains(places, at)
		if is, ok := impl.MayBreakAt(patterns, exceptions, word, at); is != may || !ok {
			t.Errorf("%q, %q: %s may break at %d: %v %v, want %v", patterns, exceptions, word, at, is, ok, may)
		}
		if may {
			last, found = at, true
		}
		want, does := last, found && at >= 0 && at <= 16
		if !does {
			want = 0
		}
		if n, ok := impl.LastPlaceWithin(patterns, exceptions, word, at); n != want || ok != does {
			t.Errorf("%q, %q: last place of %s within %d: %d %v, want %d %v", patterns, exceptions, word, at, n, ok, want, does)
		}
	}
}

func TestHyphens(t *testing.T) {
	for _, c := range hyphenCases {
		patterns, exceptions := strings.Fields(c.patterns), strings.Fields(c.exceptions)
		var values []int
		if c.values != "" {
			values = readNumbers(c.values, " ")
		}
		if l, ok := impl.ValuesOf(patterns, c.word); !slices.Equal(l, values) || len(l) != len(c.word)-1 || !ok {
			t.Errorf("%s: values of %s: %v %v, want %s", c.patterns, c.word, l, ok, c.values)
		}
		checkHyphens(t, patterns, exceptions, c.word, c.text)
	}
}

// TestFarPlaces asks for places far outside a word.
func TestFarPlaces(t *testing.T) {
	for _, at := range []int{math.MinInt, math.MinInt + 2, -1000, -5, -1, 0, 5, 6, 16, 17, 1000, 1 << 32, 1<<32 + 2, math.MaxInt} {
		for _, exceptions := range [][]string{nil, {"b-a-b-a-b"}} {
			if may, ok := impl.MayBreakAt([]string{"1a1", "1b1"}, exceptions, "babab", at); may || !ok {
				t.Error(exceptions, at, may, ok)
			}
		}
	}
}

// TestFullHyphens uses as many patterns and exceptions as there may be, the last ones too.
func TestFullHyphens(t *testing.T) {
	patterns := append(manyPatterns(19), "zz1zz")
	exceptions := append(manyExceptions(19), "x-yyy-x")
	checkHyphens(t, patterns, exceptions, "azzzz", "azz-zz")
	checkHyphens(t, patterns, exceptions, "zzzzz", "zz-z-zz")
	checkHyphens(t, patterns, exceptions, "xyyyx", "xyyyx")
	checkHyphens(t, patterns, append(manyExceptions(19), "xy-yyx"), "xyyyx", "xy-yyx")
	checkHyphens(t, patterns, exceptions, "xyyyxz", "xyyyxz")
	checkHyphens(t, slices.Repeat([]string{"x1y"}, 20), nil, "xxyxyy", "xx-yx-yy")
	checkHyphens(t, patterns, exceptions, "xxaaxx", "xx-aaxx")
	checkHyphens(t, patterns, exceptions, "xxbaxx", "xxbaxx")
	checkHyphens(t, patterns, exceptions, "xxsaxx", "xx-saxx")
}

// valueAt returns the value that a pattern has behind so many of its letters: the digit there, if there is one.
func valueAt(p string, letters int) int {
	for _, c := range p {
		isLetter := c >= 'a'
		if letters == 0 {
			if isLetter {
				return 0
			}
			return int(c - '0')
		}
		if isLetter {
			letters--
		}
	}
	return 0
}

// lettersOf returns a pattern without its digits.
func lettersOf(p string) string {
	return strings.Map(func(c rune) rune {
		if c < 'a' {
			return -1
		}
		return c
	}, p)
}

// valueOfPlace looks for each pattern in all positions in which it has a place of a word behind so many of its letters.
func valueOfPlace(patterns []string, word string, place int) int {
	value := 0
	for _, p := range patterns {
		letters := lettersOf(p)
		for before := 0; before <= len(letters); before++ {
			from, to := place-before, place-before+len(letters)
			if from >= 0 && to <= len(word) && word[from:to] == letters {
				value = max(value, valueAt(p, before))
			}
		}
	}
	return value
}

// hyphenatedByHand puts hyphens into a word letter by letter.
func hyphenatedByHand(patterns, exceptions []string, word string) string {
	for _, e := range exceptions {
		if strings.ReplaceAll(e, "-", "") != word {
			continue
		}
		// One letter alone belongs to the part beside it.
		if e[1] == '-' {
			e = e[:1] + e[2:]
		}
		if n := len(e); n > 2 && e[n-2] == '-' {
			e = e[:n-2] + e[n-1:]
		}
		return e
	}
	text := word[:1]
	for place := 1; place < len(word); place++ {
		if place > 1 && place < len(word)-1 && valueOfPlace(patterns, word, place)%2 == 1 {
			text += "-"
		}
		text += word[place : place+1]
	}
	return text
}

// checkValues checks the values of a word against those found place by place, and reports whether two of them are different and not 0.
func checkValues(t *testing.T, patterns []string, word string) bool {
	t.Helper()
	l, ok := impl.ValuesOf(patterns, word)
	if !ok || len(l) != len(word)-1 {
		t.Fatalf("%q: values of %s: %v %v", patterns, word, l, ok)
	}
	seen := map[int]bool{}
	for i, value := range l {
		if want := valueOfPlace(patterns, word, i+1); value != want {
			t.Fatalf("%q: values of %s: %v, but %d at %d", patterns, word, l, want, i+1)
		}
		if value > 0 {
			seen[value] = true
		}
	}
	return len(seen) > 1
}

// TestSmallPatterns uses all pairs of patterns of one or two letters with all short words.
func TestSmallPatterns(t *testing.T) {
	var patterns, words []string
	allTexts("ab12", 5, func(p string) {
		if impl.IsPattern(p) && len(lettersOf(p)) <= 2 {
			patterns = append(patterns, p)
		}
	})
	allTexts("ab", 5, func(word string) {
		if word != "" {
			words = append(words, word)
		}
	})
	if len(patterns) != 2*8+4*26 || len(words) != 62 {
		t.Fatal("patterns and words:", len(patterns), len(words))
	}
	different := 0
	for _, p := range patterns {
		for _, word := range words {
			checkValues(t, []string{p}, word)
			checkHyphens(t, []string{p}, nil, word, hyphenatedByHand([]string{p}, nil, word))
		}
		for k, q := range patterns {
			pair := []string{p, q}
			for i := k % 5; i < len(words); i += 5 {
				if checkValues(t, pair, words[i]) {
					different++
				}
			}
		}
	}
	if different < 20000 {
		t.Error("too few words with different values:", different)
	}
}

// TestAllHyphensOfExceptions uses exceptions with hyphens at all choices of places, with patterns that let the word break nowhere, or everywhere, or at some places.
func TestAllHyphensOfExceptions(t *testing.T) {
	for n := 2; n <= 10; n++ {
		word := longestWord[:n]
		for choice := range 1 << (n - 1) {
			e, want := word[:1], word[:1]
			for place := 1; place < n; place++ {
				if choice>>(place-1)&1 == 1 {
					e += "-"
					if place >= 2 && place <= n-2 {
						want += "-"
					}
				}
				e += word[place : place+1]
				want += word[place : place+1]
			}
			for _, patterns := range [][]string{nil, {"a1", "b1", "c1", "d1", "e1", "f1", "g1", "h1", "i1", "j1"}, {"b1", "c2", "d1", "1d"}} {
				exceptions := [][]string{{e}, {"zz", e}, {e, word + "z", word[1:] + "yz"}}[choice%3]
				if text, ok := impl.HyphenText(patterns, exceptions, word); text != want || !ok {
					t.Fatalf("%q, %q: %s %v, want %s", patterns, exceptions, text, ok, want)
				}
				if choice%8 == n%8 {
					checkHyphens(t, patterns, exceptions, word, want)
				}
			}
		}
	}
}

// randomPattern has at most so many letters.
func randomPattern(r *rand.Rand, most int) string {
	for {
		text := ""
		for _, c := range randomLetters(r, most) {
			if r.Intn(3) == 0 {
				text += string(rune('1' + r.Intn(9)))
			}
			text += string(c)
		}
		if r.Intn(3) == 0 {
			text += string(rune('1' + r.Intn(9)))
		}
		if isPatternText(text) {
			return text
		}
	}
}

func randomPatterns(r *rand.Rand) []string {
	patterns := make([]string, r.Intn(21))
	most := 1 + r.Intn(6)
	for i := range patterns {
		patterns[i] = randomPattern(r, most)
	}
	return patterns
}

// randomException has its hyphens at random places of a word.
func randomException(r *rand.Rand, word string) string {
	e := word[:1]
	often := 1 + r.Intn(4)
	for i := 1; i < len(word); i++ {
		if r.Intn(often) == 0 {
			e += "-"
		}
		e += word[i : i+1]
	}
	return e
}

// randomExceptions are exceptions of different words, some of the given ones among them.
func randomExceptions(r *rand.Rand, words []string, n int) []string {
	var exceptions []string
	seen := map[string]bool{}
	for len(exceptions) < n {
		word := randomLetters(r, 16)
		if r.Intn(2) == 0 {
			word = words[r.Intn(len(words))]
		}
		if len(word) > 1 && !seen[word] {
			seen[word] = true
			exceptions = append(exceptions, randomException(r, word))
		}
	}
	return exceptions
}

// TestRandomHyphens checks the words against values found place by place, and hyphens put in letter by letter.
func TestRandomHyphens(t *testing.T) {
	r := rand.New(rand.NewSource(70))
	different, excepted, otherwise, broken, whole := 0, 0, 0, 0, 0
	for range 1000 {
		words := make([]string, 5)
		for i := range words {
			words[i] = randomLetters(r, 16)
		}
		patterns, exceptions := randomPatterns(r), randomExceptions(r, words, r.Intn(21))
		plain, ok := impl.WordsOfExceptions(exceptions)
		if !ok || len(plain) != len(exceptions) {
			t.Fatalf("%q: words %q %v", exceptions, plain, ok)
		}
		for i, e := range exceptions {
			if plain[i] != strings.ReplaceAll(e, "-", "") {
				t.Fatalf("%q: words %q", exceptions, plain)
			}
		}
		for _, word := range words {
			if checkValues(t, patterns, word) {
				different++
			}
			text := hyphenatedByHand(patterns, exceptions, word)
			checkHyphens(t, patterns, exceptions, word, text)
			if slices.Contains(plain, word) {
				excepted++
				if text != hyphenatedByHand(patterns, nil, word) {
					otherwise++
				}
			}
			if strings.Count(text, "-") > 2 {
				broken++
			}
			if text == word && len(word) > 8 {
				whole++
			}
		}
	}
	if different < 2000 || excepted < 2000 || otherwise < 1500 || broken < 1500 || whole < 100 {
		t.Error("too few words:", different, excepted, otherwise, broken, whole)
	}
}

// TestRandomPatternOrders checks that the order of patterns and exceptions changes nothing.
func TestRandomPatternOrders(t *testing.T) {
	r := rand.New(rand.NewSource(71))
	for range 1000 {
		words := []string{randomLetters(r, 16), randomLetters(r, 16)}
		patterns, exceptions := randomPatterns(r), randomExceptions(r, words, r.Intn(10))
		values, _ := impl.ValuesOf(patterns, words[0])
		text, _ := impl.HyphenText(patterns, exceptions, words[0])
		r.Shuffle(len(patterns), func(i, j int) { patterns[i], patterns[j] = patterns[j], patterns[i] })
		r.Shuffle(len(exceptions), func(i, j int) { exceptions[i], exceptions[j] = exceptions[j], exceptions[i] })
		if l, ok := impl.ValuesOf(patterns, words[0]); !slices.Equal(l, values) || !ok {
			t.Fatalf("%q: values of %s: %v %v, in another order %v", patterns, words[0], l, ok, values)
		}
		if s, ok := impl.HyphenText(patterns, exceptions, words[0]); s != text || !ok {
			t.Fatalf("%q, %q: %s %v, in another order %s", patterns, exceptions, s, ok, text)
		}
	}
}

func TestNewException(t *testing.T) {
	cases := []struct{ exceptions, e, want string }{
		// At the end.
		{"", "ab", "ab"},
		{"", "a-b", "a-b"},
		{"", hyphened(longestWord), hyphened(longestWord)},
		{"ab", "ba", "ab ba"},
		{"zz", "aa", "zz aa"},
		{"bab-ab a-b-a", "abba", "bab-ab a-b-a abba"},
		{"ab", "abc", "ab abc"},
		{"abc", "ab", "abc ab"},
		{"a-b", "a-c", "a-b a-c"},
		// In the place of another one.
		{"bab-ab", "ba-bab", "ba-bab"},
		{"ab", "a-b", "a-b"},
		{"a-b", "ab", "ab"},
		{"bab-ab a-b-a abba", "babab", "babab a-b-a abba"},
		{"bab-ab a-b-a abba", "aba", "bab-ab aba abba"},
		{"bab-ab a-b-a abba", "a-b-b-a", "bab-ab a-b-a a-b-b-a"},
		{"ab abc abcd", "a-bc", "ab a-bc abcd"},
		{longestWord + " ab", hyphened(longestWord), hyphened(longestWord) + " ab"},
		// The same one.
		{"ab", "ab", "ab"},
		{"a-b", "a-b", "a-b"},
		{"bab-ab a-b-a abba", "bab-ab", "bab-ab a-b-a abba"},
		{"bab-ab a-b-a abba", "a-b-a", "bab-ab a-b-a abba"},
		{"bab-ab a-b-a abba", "abba", "bab-ab a-b-a abba"},
	}
	for _, c := range cases {
		if l, ok := impl.NewException(strings.Fields(c.exceptions), c.e); !slices.Equal(l, strings.Fields(c.want)) || !ok {
			t.Errorf("%s and %s: %q %v, want %s", c.exceptions, c.e, l, ok, c.want)
		}
	}
}

// TestFullExceptions adds to lists with as many exceptions as there may be, or one less.
func TestFullExceptions(t *testing.T) {
	for n := range 21 {
		many := manyExceptions(n)
		l, ok := impl.NewException(many, "x-y")
		if ok != (n < 20) || ok && !slices.Equal(l, append(slices.Clone(many), "x-y")) || !ok && l != nil {
			t.Error("one more than", n, l, ok)
		}
		for i, e := range many {
			for _, other := range []string{e, strings.ReplaceAll(e, "-", ""), hyphened(strings.ReplaceAll(e, "-", ""))} {
				want := slices.Clone(many)
				want[i] = other
				if l, ok := impl.NewException(many, other); !slices.Equal(l, want) || !ok {
					t.Errorf("%s among %d: %q %v", other, n, l, ok)
				}
			}
		}
	}
	if l, ok := impl.NewException(manyExceptions(21), manyExceptions(21)[20]); l != nil || ok {
		t.Error("one too many already", l, ok)
	}
}

// TestRandomExceptions puts exceptions in one after the other, and follows the list by its words.
func TestRandomExceptions(t *testing.T) {
	r := rand.New(rand.NewSource(72))
	replaced, added, refused := 0, 0, 0
	for range 200 {
		var l, words, want []string
		most := 2 + r.Intn(3)
		for range 60 {
			word := randomLetters(r, most)
			if len(word) < 2 {
				continue
			}
			e := randomException(r, word)
			at := slices.Index(words, word)
			next, ok := impl.NewException(l, e)
			if at < 0 && len(words) == 20 {
				if next != nil || ok {
					t.Fatalf("%q and %s: %q %v, but there are 20", l, e, next, ok)
				}
				refused++
				continue
			}
			if at < 0 {
				words, want = append(words, word), append(want, e)
				added++
			} else {
				want[at] = e
				replaced++
			}
			if !slices.Equal(next, want) || !ok {
				t.Fatalf("%q and %s: %q %v, want %q", l, e, next, ok, want)
			}
			if plain, ok := impl.WordsOfExceptions(next); !slices.Equal(plain, words) || !ok {
				t.Fatalf("%q: words %q %v", next, plain, ok)
			}
			checkHyphens(t, []string{"a1", "1b2", "b1c"}, next, word, hyphenatedByHand(nil, []string{e}, word))
			l = next
		}
	}
	if replaced < 2000 || added < 2000 || refused < 500 {
		t.Error("too few exceptions:", replaced, added, refused)
	}
}

// refuseWord checks that the functions for words refuse patterns, exceptions or a word.
func refuseWord(t *testing.T, patterns, exceptions []string, word string) {
	t.Helper()
	if l, ok := impl.HyphenPlaces(patterns, exceptions, word); l != nil || ok {
		t.Errorf("%.100q, %.100q, %.100q: HyphenPlaces %v %v", patterns, exceptions, word, l, ok)
	}
	if l, ok := impl.PartsOfWord(patterns, exceptions, word); l != nil || ok {
		t.Errorf("%.100q, %.100q, %.100q: PartsOfWord %q %v", patterns, exceptions, word, l, ok)
	}
	if s, ok := impl.HyphenText(patterns, exceptions, word); s != "" || ok {
		t.Errorf("%.100q, %.100q, %.100q: HyphenText %q %v", patterns, exceptions, word, s, ok)
	}
	for _, n := range []int{-1, 0, 2, 3, 16, 17, math.MinInt, math.MaxInt} {
		if is, ok := impl.MayBreakAt(patterns, exceptions, word, n); is || ok {
			t.Errorf("%.100q, %.100q, %.100q: MayBreakAt %d: %v %v", patterns, exceptions, word, n, is, ok)
		}
		if at, ok := impl.LastPlaceWithin(patterns, exceptions, word, n); at != 0 || ok {
			t.Errorf("%.100q, %.100q, %.100q: LastPlaceWithin %d: %d %v", patterns, exceptions, word, n, at, ok)
		}
	}
}

func refuseValues(t *testing.T, patterns []string, word string) {
	t.Helper()
	if l, ok := impl.ValuesOf(patterns, word); l != nil || ok {
		t.Errorf("%.100q, %.100q: ValuesOf %v %v", patterns, word, l, ok)
	}
}

func refuseNewException(t *testing.T, exceptions []string, e string) {
	t.Helper()
	if l, ok := impl.NewException(exceptions, e); l != nil || ok {
		t.Errorf("%.100q, %.100q: NewException %q %v", exceptions, e, l, ok)
	}
}

func TestInvalidPatterns(t *testing.T) {
	for _, patterns := range invalidPatternLists() {
		for _, word := range []string{"babab", "a", longestWord, "", "1"} {
			refuseValues(t, patterns, word)
			refuseWord(t, patterns, nil, word)
			refuseWord(t, patterns, []string{"bab-ab"}, word)
			refuseWord(t, patterns, []string{"-"}, word)
		}
	}
}

func TestInvalidExceptions(t *testing.T) {
	for _, exceptions := range invalidExceptionLists() {
		for _, word := range []string{"babab", "ab", longestWord, "", "a-b"} {
			refuseWord(t, nil, exceptions, word)
			refuseWord(t, examplePatterns(), exceptions, word)
			refuseWord(t, []string{"ab"}, exceptions, word)
		}
		for _, e := range []string{"bab-ab", "a-b", "ab", "zz", longestWord, "", "a"} {
			refuseNewException(t, exceptions, e)
		}
		if l, ok := impl.WordsOfExceptions(exceptions); l != nil || ok {
			t.Errorf("%.100q: WordsOfExceptions %q %v", exceptions, l, ok)
		}
	}
	for _, exceptions := range validExceptionLists {
		for _, e := range invalidExceptions {
			refuseNewException(t, exceptions, e)
		}
	}
}

func TestInvalidWordsToBreak(t *testing.T) {
	// A word that is set cannot have hyphens, unlike an exception.
	words := append([]string{"bab-ab", "a-b", "-", "ab-", "-ab", "b1a", "a1b"}, invalidWords...)
	for _, word := range words {
		for i, patterns := range validPatternLists {
			refuseValues(t, patterns, word)
			refuseWord(t, patterns, validExceptionLists[i%len(validExceptionLists)], word)
		}
		for _, exceptions := range validExceptionLists {
			refuseWord(t, examplePatterns(), exceptions, word)
		}
	}
}

func TestInvalidLetters(t *testing.T) {
	for _, letters := range []int{-1, -2, -16, 17, 18, 100, math.MinInt, math.MinInt + 1, 1 << 32, 1<<32 + 3, math.MaxInt} {
		for _, patterns := range validPatternLists {
			for _, exceptions := range validExceptionLists {
				for _, word := range []string{"babab", "a", longestWord, "abab"} {
					if at, ok := impl.LastPlaceWithin(patterns, exceptions, word, letters); at != 0 || ok {
						t.Errorf("%q, %q, %s within %d: %d %v", patterns, exceptions, word, letters, at, ok)
					}
				}
			}
		}
	}
}

// TestListsOfHyphens uses all valid lists with all valid words.
func TestListsOfHyphens(t *testing.T) {
	for _, patterns := range validPatternLists {
		for _, word := range validWords {
			checkValues(t, patterns, word)
			for _, exceptions := range validExceptionLists {
				checkHyphens(t, patterns, exceptions, word, hyphenatedByHand(patterns, exceptions, word))
			}
		}
	}
}

// hyphenResults are the results of all functions on hyphens, each with its success.
type hyphenResults struct {
	isPattern, may bool
	last           int
	text           string
	done           [8]bool
	numbers        [2][]int
	texts          [3][]string
}

func hyphenResultsOf(patterns, exceptions []string, word, e string, n int) (s hyphenResults) {
	s.isPattern = impl.IsPattern(e)
	s.numbers[0], s.done[0] = impl.ValuesOf(patterns, word)
	s.numbers[1], s.done[1] = impl.HyphenPlaces(patterns, exceptions, word)
	s.texts[0], s.done[2] = impl.PartsOfWord(patterns, exceptions, word)
	s.may, s.done[3] = impl.MayBreakAt(patterns, exceptions, word, n)
	s.text, s.done[4] = impl.HyphenText(patterns, exceptions, word)
	s.last, s.done[5] = impl.LastPlaceWithin(patterns, exceptions, word, n)
	s.texts[1], s.done[6] = impl.NewException(exceptions, e)
	s.texts[2], s.done[7] = impl.WordsOfExceptions(exceptions)
	return s
}

// sameHyphenResults compares results; their lists are overwritten.
func sameHyphenResults(a, b hyphenResults) bool {
	same := equalLists(a.numbers[:], b.numbers[:]) && slices.EqualFunc(a.texts[:], b.texts[:], slices.Equal[[]string])
	for _, s := range []hyphenResults{a, b} {
		for _, l := range s.numbers {
			overwrite(l, true)
		}
		for _, l := range s.texts {
			overwrite(l, true)
		}
	}
	return same && a.isPattern == b.isPattern && a.may == b.may && a.last == b.last && a.text == b.text && a.done == b.done
}

// TestHyphensStay calls the functions with lists that have spare capacity, of which they must neither take nor change anything, and overwrites the results.
func TestHyphensStay(t *testing.T) {
	patternLists := slices.Concat(validPatternLists, invalidPatternLists()[4:])
	exceptionLists := slices.Concat(validExceptionLists, invalidExceptionLists()[3:])
	words := slices.Concat(validWords, invalidWords[:10])
	for k := range max(len(patternLists), len(exceptionLists)) * 3 {
		patterns, exceptions := patternLists[k%len(patternLists)], exceptionLists[(k*7+3)%len(exceptionLists)]
		switch k % 3 {
		case 0:
			patterns = validPatternLists[k/3%len(validPatternLists)]
		case 1:
			exceptions = validExceptionLists[k/3%len(validExceptionLists)]
		}
		for i, e := range []string{"bab-ab", "ab", "zz", "a-b-a", "", "b1a", longestWord} {
			word := words[(k*7+i)%len(words)]
			// What is behind the patterns would let words break everywhere, what is behind the exceptions would be one more.
			p, patternsStay := guarded(t, "patterns", patterns, "1a1")
			x, exceptionsStay := guarded(t, "exceptions", exceptions, "x-yz")
			plain := hyphenResultsOf(slices.Clip(slices.Clone(patterns)), slices.Clip(slices.Clone(exceptions)), word, e, i+k%3-2)
			s := hyphenResultsOf(p, x, word, e, i+k%3-2)
			if shareAny(s.numbers[:]) || shareAny(append(s.texts[:], p, x)) {
				t.Errorf("%.100q, %.100q, %.100q, %.100q: results share memory", patterns, exceptions, word, e)
			}
			if !sameHyphenResults(s, plain) {
				t.Errorf("%.100q, %.100q, %.100q, %.100q: %v, without spare capacity %v", patterns, exceptions, word, e, s, plain)
			}
			patternsStay()
			exceptionsStay()
		}
	}
}

// TestHyphenResultsAreNew checks that the same call gives the same result when an earlier one has been overwritten.
func TestHyphenResultsAreNew(t *testing.T) {
	patterns, exceptions := examplePatterns(), exampleExceptions()
	for range 2 {
		values, _ := impl.ValuesOf(patterns, "babab")
		places, _ := impl.HyphenPlaces(patterns, nil, "babab")
		excepted, _ := impl.HyphenPlaces(patterns, exceptions, "babab")
		parts, _ := impl.PartsOfWord(patterns, exceptions, "babab")
		whole, _ := impl.PartsOfWord(nil, nil, "babab")
		more, _ := impl.NewException(exceptions, "zz")
		changed, _ := impl.NewException(exceptions, "ba-bab")
		same, _ := impl.NewException(exceptions, "abba")
		words, _ := impl.WordsOfExceptions([]string{"babab", "abba"})
		if !slices.Equal(values, []int{2, 1, 2, 1}) || !slices.Equal(places, []int{2}) || !slices.Equal(excepted, []int{3}) || !slices.Equal(parts, []string{"bab", "ab"}) || !slices.Equal(whole, []string{"babab"}) {
			t.Error(values, places, excepted, parts, whole)
		}
		if !slices.Equal(more, []string{"bab-ab", "a-b-a", "abba", "zz"}) || !slices.Equal(changed, []string{"ba-bab", "a-b-a", "abba"}) || !slices.Equal(same, exceptions) || !slices.Equal(words, []string{"babab", "abba"}) {
			t.Error(more, changed, same, words)
		}
		numbers := [][]int{values, places, excepted}
		texts := [][]string{parts, whole, more, changed, same, words}
		if shareAny(numbers) || shareAny(append(texts, patterns, exceptions)) {
			t.Error("results share memory")
		}
		for _, l := range numbers {
			overwrite(l, true)
		}
		for _, l := range texts {
			overwrite(l, true)
		}
		if !slices.Equal(patterns, examplePatterns()) || !slices.Equal(exceptions, exampleExceptions()) {
			t.Fatal("an argument was changed:", patterns, exceptions)
		}
	}
}
