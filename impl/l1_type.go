package impl

import (
	"slices"
	"strconv"
	"strings"
)

// Em is the width of an em in units.
const Em = 18

// MaxSorts is the maximum number of sorts of a font.
const MaxSorts = 32

const (
	maxCodeLetters = 3
	maxWordLetters = 16
	maxWords       = 40
	maxSet         = 3 * Em
)

// Sort is a kind of type with a width in units.
type Sort struct {
	Code string
	Set  int
}

// IsSort reports whether a sort is valid.
func IsSort(s Sort) bool {
	return isCode(s.Code) && s.Set >= 1 && s.Set <= maxSet
}

// IsFont reports whether sorts are a font.
func IsFont(f []Sort) bool {
	if len(f) < 1 || len(f) > MaxSorts {
		return false
	}
	for i, s := range f {
		if !IsSort(s) || i > 0 && f[i-1].Code >= s.Code {
			return false
		}
	}
	return true
}

// SetOfCode returns the width of the sort with a Code. It fails if there is none.
func SetOfCode(f []Sort, code string) (int, bool) {
	if !IsFont(f) {
		return 0, false
	}
	i, found := placeOfCode(f, code)
	if !found {
		return 0, false
	}
	return f[i].Set, true
}

// SortsOfWord returns the indices of the sorts with which a word is set, in order. It fails if the word cannot be set.
func SortsOfWord(f []Sort, word string) ([]int, bool) {
	if !IsFont(f) || !isWord(word) {
		return nil, false
	}
	var sorts []int
	for rest := word; rest != ""; {
		i, found := longestSort(f, rest)
		if !found {
			return nil, false
		}
		sorts = append(sorts, i)
		rest = rest[len(f[i].Code):]
	}
	return sorts, true
}

// WidthOfWord returns the sum of the widths of the sorts with which a word is set. It fails if the word cannot be set.
func WidthOfWord(f []Sort, word string) (int, bool) {
	sorts, ok := SortsOfWord(f, word)
	if !ok {
		return 0, false
	}
	width := 0
	for _, i := range sorts {
		width += f[i].Set
	}
	return width, true
}

// NarrowestWay returns the indices of sorts whose Codes, one after the other, are the word, with the least sum of widths, and this; of several lists the lexicographically first one. It fails if there are none.
func NarrowestWay(f []Sort, word string) ([]int, int, bool) {
	if !IsFont(f) || !isWord(word) {
		return nil, 0, false
	}
	steps := narrowestSteps(f, word)
	if !steps[0].possible {
		return nil, 0, false
	}
	var way []int
	for at := 0; at < len(word); {
		i := steps[at].sort
		way = append(way, i)
		at += len(f[i].Code)
	}
	return way, steps[0].width, true
}

// LigaturesIn returns the Codes of all ligatures with which a word is set, in order, each as often as it is used. It fails if the word cannot be set.
func LigaturesIn(f []Sort, word string) ([]string, bool) {
	sorts, ok := SortsOfWord(f, word)
	if !ok {
		return nil, false
	}
	var ligatures []string
	for _, i := range sorts {
		if len(f[i].Code) > 1 {
			ligatures = append(ligatures, f[i].Code)
		}
	}
	return ligatures, true
}

// MissingLetters returns the letters of words, in order of the alphabet and each one once, that are not the Code of a sort.
func MissingLetters(f []Sort, words []string) (string, bool) {
	if !IsFont(f) || !areWords(words) {
		return "", false
	}
	var missing ['z' - 'a' + 1]bool
	for _, word := range words {
		for _, letter := range word {
			missing[letter-'a'] = true
		}
	}
	for _, s := range f {
		if len(s.Code) == 1 {
			missing[s.Code[0]-'a'] = false
		}
	}
	var letters []byte
	for i, isMissing := range missing {
		if isMissing {
			letters = append(letters, byte('a'+i))
		}
	}
	return string(letters), true
}

// WithSort returns the font with one more sort. It fails if its Code is there, or there are MaxSorts sorts.
func WithSort(f []Sort, s Sort) ([]Sort, bool) {
	if !IsFont(f) || !IsSort(s) || len(f) == MaxSorts {
		return nil, false
	}
	i, found := placeOfCode(f, s.Code)
	if found {
		return nil, false
	}
	return slices.Concat(f[:i], []Sort{s}, f[i:]), true
}

// WithoutSort returns the font without the sort with a Code. It fails if it is not there, or is the only one.
func WithoutSort(f []Sort, code string) ([]Sort, bool) {
	if !IsFont(f) || len(f) == 1 {
		return nil, false
	}
	i, found := placeOfCode(f, code)
	if !found {
		return nil, false
	}
	return slices.Concat(f[:i], f[i+1:]), true
}

// FontText returns for each sort the Code, the width in decimal, and a semicolon.
func FontText(f []Sort) (string, bool) {
	if !IsFont(f) {
		return "", false
	}
	var text strings.Builder
	for _, s := range f {
		text.WriteString(s.Code)
		text.WriteString(strconv.Itoa(s.Set))
		text.WriteByte(';')
	}
	return text.String(), true
}

// ParseFont returns the font with the given FontText. It fails if there is none.
func ParseFont(s string) ([]Sort, bool) {
	var f []Sort
	for rest := s; rest != ""; {
		entry, after, ended := strings.Cut(rest, ";")
		x, ok := parseSort(entry)
		if !ended || !ok || len(f) == MaxSorts {
			return nil, false
		}
		f = append(f, x)
		rest = after
	}
	if !IsFont(f) {
		return nil, false
	}
	return f, true
}

// parseSort reads a sort as FontText writes it, without its semicolon.
func parseSort(entry string) (Sort, bool) {
	digits := strings.IndexAny(entry, "0123456789")
	if digits < 0 {
		return Sort{}, false
	}
	set, ok := parseDecimal(entry[digits:])
	s := Sort{entry[:digits], set}
	if !ok || !IsSort(s) {
		return Sort{}, false
	}
	return s, true
}

// parseDecimal returns the number that strconv.Itoa writes as a text, so that no second spelling (a plus, leading zeros, -0) is taken for it.
func parseDecimal(text string) (int, bool) {
	n, err := strconv.Atoi(text)
	if err != nil || strconv.Itoa(n) != text {
		return 0, false
	}
	return n, true
}

// isCode reports whether a text may be the Code of a sort.
func isCode(code string) bool {
	return len(code) >= 1 && len(code) <= maxCodeLetters && areLetters(code)
}

// isWord reports whether a text is a word.
func isWord(word string) bool {
	return len(word) >= 1 && len(word) <= maxWordLetters && areLetters(word)
}

// areWords reports whether texts are a list of words.
func areWords(words []string) bool {
	if len(words) > maxWords {
		return false
	}
	for _, word := range words {
		if !isWord(word) {
			return false
		}
	}
	return true
}

// areLetters reports whether a text has no other characters than the letters a to z.
func areLetters(text string) bool {
	for _, letter := range text {
		if letter < 'a' || letter > 'z' {
			return false
		}
	}
	return true
}

// placeOfCode returns the index of the sort of a font with a Code, or the one where it would have to be put in.
func placeOfCode(f []Sort, code string) (int, bool) {
	return slices.BinarySearchFunc(f, code, func(s Sort, code string) int {
		return strings.Compare(s.Code, code)
	})
}

// longestSort returns the index of the sort with the longest Code with which a text begins. Of the Codes with which one text begins, a longer one is greater, so that the last one in a font is the longest.
func longestSort(f []Sort, text string) (int, bool) {
	longest, found := 0, false
	for i, s := range f {
		if strings.HasPrefix(text, s.Code) {
			longest, found = i, true
		}
	}
	return longest, found
}

// narrowStep tells how the rest of a word is made up most narrowly: with which sort first, and how wide the whole rest is.
type narrowStep struct {
	possible bool
	sort     int
	width    int
}

// narrowestSteps returns the step for each place in a word, found from its end on. A later sort replaces an earlier one only if it is narrower, so that the first one of several equally narrow ways is kept.
func narrowestSteps(f []Sort, word string) []narrowStep {
	steps := make([]narrowStep, len(word)+1)
	steps[len(word)].possible = true
	for at := len(word) - 1; at >= 0; at-- {
		for i, s := range f {
			if !strings.HasPrefix(word[at:], s.Code) {
				continue
			}
			next := steps[at+len(s.Code)]
			width := s.Set + next.width
			if next.possible && (!steps[at].possible || width < steps[at].width) {
				steps[at] = narrowStep{true, i, width}
			}
		}
	}
	return steps
}
