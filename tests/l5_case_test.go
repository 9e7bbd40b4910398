package tests

import (
	"math"
	"math/rand"
	"slices"
	"strconv"
	"strings"
	"testing"

	"loop.example/g01054/impl"
)

func boxOf(code string, row, column, count int) impl.Box {
	return impl.Box{Code: code, Row: row, Column: column, Count: count}
}

// readCase reads boxes as CaseText writes them, valid or not, without the help of the package.
func readCase(text string) []impl.Box {
	var l []impl.Box
	for _, entry := range strings.Split(strings.TrimSuffix(text, ";"), ";") {
		code, rest, _ := strings.Cut(entry, "@")
		var numbers [3]int
		for i, field := range strings.FieldsFunc(rest, func(c rune) bool { return c == '.' || c == 'x' }) {
			n, err := strconv.Atoi(field)
			if err != nil {
				panic(err)
			}
			numbers[i] = n
		}
		l = append(l, boxOf(code, numbers[0], numbers[1], numbers[2]))
	}
	return l
}

func exampleCase() []impl.Box { return readCase("a@0.0x5;b@2.1x0;") }

// fullRows returns n boxes with the Codes aa, ab, .., ba, .. and the Counts 1, 2, .., in rows from the first place on.
func fullRows(n int) []impl.Box {
	var l []impl.Box
	for i, s := range pairs(n) {
		l = append(l, boxOf(s.Code, i/10, i%10, i+1))
	}
	return l
}

func validCases() [][]impl.Box {
	return [][]impl.Box{
		exampleCase(), readCase("a@0.0x0;"), readCase("zzz@9.9x9999;"), readCase("m@0.9x9999;n@9.0x0;"),
		readCase("f@3.3x1;fi@3.4x2;fl@4.3x3;i@9.9x9999;"), fullRows(10), fullRows(31), fullRows(32),
	}
}

func invalidBoxes() []impl.Box {
	var l []impl.Box
	for _, s := range invalidSorts {
		if s.Set == 5 { // its Code is at fault
			l = append(l, boxOf(s.Code, 5, 5, 5))
		}
	}
	for _, n := range []int{-1, -10, 10, 11, 99, math.MaxInt, math.MinInt} {
		l = append(l, boxOf("m", n, 5, 5), boxOf("m", 5, n, 5), boxOf("m", n, n, 5))
	}
	for _, n := range []int{-1, -5, 10000, 99999, math.MaxInt, math.MinInt} {
		l = append(l, boxOf("m", 5, 5, n))
	}
	return append(l, impl.Box{}, boxOf("", 0, 0, 1))
}

func invalidCases() [][]impl.Box {
	cases := [][]impl.Box{
		nil, {}, fullRows(33), fullRows(100),
		// Two boxes at one place.
		readCase("a@0.0x5;b@0.0x0;"), readCase("a@2.1x5;b@2.1x5;"), readCase("a@9.9x5;b@0.0x5;c@9.9x5;"), readCase("a@0.0x5;b@2.1x0;c@0.1x0;d@2.1x0;"), readCase("a@0.0x5;b@2.1x0;c@2.1x0;"),
		append(fullRows(31), boxOf("zz", 0, 0, 1)), append(fullRows(31), boxOf("zz", 3, 0, 1)),
		// Codes that are equal, or not increasing.
		readCase("a@0.0x5;a@2.1x0;"), readCase("b@0.0x5;a@2.1x0;"), readCase("a@0.0x5;b@2.1x0;b@2.2x0;"), readCase("a@0.0x5;c@2.1x0;b@2.2x0;"), readCase("b@0.0x5;a@2.1x0;c@2.2x0;"), readCase("ab@0.0x5;a@2.1x0;"), readCase("a@0.0x5;b@2.1x0;a@2.2x0;"),
	}
	for _, b := range invalidBoxes() {
		cases = append(cases, []impl.Box{b}, append(exampleCase(), b), append([]impl.Box{b}, readCase("x@0.0x5;y@2.1x0;")...))
	}
	return cases
}

// manyCodes returns a code n times.
func manyCodes(code string, n int) []string { return slices.Repeat([]string{code}, n) }

// invalidCodes returns what are no codes for a case with boxes for a and b alone.
func invalidCodes() [][]string {
	l := [][]string{manyCodes("a", 61), manyCodes("b", 61), manyCodes("a", 1000), append(manyCodes("a", 59), "b", "a"), append(manyCodes("a", 60), "c")}
	for _, code := range []string{"c", "", "ab", "aa", "ba", "A", "a ", " a", "z", "`", "\xff", "ä", strings.Repeat("a", 100000)} {
		l = append(l, []string{code}, []string{"a", code}, []string{code, "a"}, []string{"a", code, "b"}, append(manyCodes("a", 59), code), append([]string{code}, manyCodes("b", 59)...))
	}
	return l
}

func TestCaseConstants(t *testing.T) {
	if impl.MaxBoxes != 32 {
		t.Error(impl.MaxBoxes)
	}
}

func TestIsBox(t *testing.T) {
	valid := []impl.Box{boxOf("a", 0, 0, 0), boxOf("z", 9, 9, 9999), boxOf("fi", 0, 9, 1), boxOf("ffi", 9, 0, 9998), boxOf("aaa", 0, 0, 9999), boxOf("zzz", 9, 9, 0), boxOf("m", 5, 4, 3)}
	for _, l := range validCases() {
		valid = append(valid, l...)
	}
	for _, b := range valid {
		if !impl.IsBox(b) {
			t.Errorf("%v is a box", b)
		}
	}
	for _, b := range invalidBoxes() {
		if impl.IsBox(b) {
			t.Errorf("%.100v is no box", b)
		}
	}
}

func TestIsCase(t *testing.T) {
	for _, l := range validCases() {
		if !impl.IsCase(l) {
			t.Errorf("%v is a case", l)
		}
	}
	for _, l := range invalidCases() {
		if impl.IsCase(l) {
			t.Errorf("%.100v is no case", l)
		}
	}
	// Every place may have a box, and only one.
	for row := range 10 {
		for column := range 10 {
			l := []impl.Box{boxOf("a", row, column, 1), boxOf("b", column, row, 1)}
			if impl.IsCase(l) != (row != column) {
				t.Errorf("%v", l)
			}
		}
	}
}

func TestBoxOf(t *testing.T) {
	for _, l := range validCases() {
		for i, b := range l {
			if n, ok := impl.BoxOf(l, b.Code); n != i || !ok {
				t.Errorf("%s in %v: %d %v", b.Code, l, n, ok)
			}
		}
		for _, code := range []string{"", "c", "abc", "fl ", "F", "FI", "ffi", "zzzz", "zz", "bg", "a\x00", "\xff", strings.Repeat("a", 100000)} {
			if n, ok := impl.BoxOf(l, code); n != 0 || ok {
				t.Errorf("%.20q in %v: %d %v", code, l, n, ok)
			}
		}
	}
}

func TestHandWay(t *testing.T) {
	long := append(slices.Repeat([]string{"n", "m"}, 29), "m", "n")
	cases := []struct {
		l     string
		codes []string
		want  int
	}{
		{"a@0.0x5;b@2.1x0;", strings.Fields("a b a"), 6},
		{"a@0.0x5;b@2.1x0;", nil, 0},
		{"a@0.0x5;b@2.1x0;", []string{}, 0},
		{"a@0.0x5;b@2.1x0;", strings.Fields("a"), 0},
		{"a@0.0x5;b@2.1x0;", strings.Fields("b"), 3}, // from the corner on
		{"a@0.0x5;b@2.1x0;", strings.Fields("b b b"), 3},
		{"a@0.0x5;b@2.1x0;", strings.Fields("b a"), 6}, // and not back to it
		{"a@0.0x5;b@2.1x0;", strings.Fields("b a b"), 9},
		{"a@0.0x5;b@2.1x0;", manyCodes("a", 60), 0},
		{"a@0.0x5;b@2.1x0;", slices.Repeat([]string{"a", "b"}, 30), 59 * 3},
		{"a@0.0x5;b@2.1x0;", slices.Repeat([]string{"b", "a"}, 30), 60 * 3},
		{"m@9.9x0;", strings.Fields("m"), 18},
		{"m@9.9x0;", manyCodes("m", 60), 18},
		{"m@0.9x9999;n@9.0x0;", strings.Fields("m n"), 27},
		{"m@0.9x9999;n@9.0x0;", strings.Fields("n m"), 27},
		{"m@0.9x9999;n@9.0x0;", long, 9 + 58*18},
		{"m@3.7x1;n@5.2x1;", strings.Fields("m n"), 17}, // 10, 2 rows and 5 columns
		{"m@3.7x1;n@5.2x1;", strings.Fields("n m"), 14},
		{"m@5.7x1;n@3.2x1;", strings.Fields("m n"), 19},
		{"m@5.7x1;n@3.2x1;", strings.Fields("n m m n"), 19},
		{"f@3.3x1;fi@3.4x2;fl@4.3x3;i@9.9x9999;", strings.Fields("f fi fl i f"), 6 + 1 + 2 + 11 + 12},
	}
	for _, c := range cases {
		l := readCase(c.l)
		if n, ok := impl.HandWay(l, c.codes); n != c.want || !ok {
			t.Errorf("%v in %s: %d %v, want %d", c.codes, c.l, n, ok, c.want)
		}
		for i := range l {
			l[i].Row, l[i].Column = l[i].Column, l[i].Row
		}
		if n, ok := impl.HandWay(l, c.codes); n != c.want || !ok {
			t.Errorf("%v in %s, rows and columns exchanged: %d %v, want %d", c.codes, c.l, n, ok, c.want)
		}
	}
}

func TestSwapBoxes(t *testing.T) {
	cases := []struct {
		l    string
		a, b int
		want string
	}{
		{"a@0.0x5;b@2.1x0;", 0, 1, "a@2.1x5;b@0.0x0;"},
		{"a@0.0x5;b@2.1x0;", 1, 0, "a@2.1x5;b@0.0x0;"},
		{"a@0.0x5;b@2.1x0;", 0, 0, "a@0.0x5;b@2.1x0;"},
		{"a@0.0x5;b@2.1x0;", 1, 1, "a@0.0x5;b@2.1x0;"},
		{"m@9.9x9999;", 0, 0, "m@9.9x9999;"},
		{"f@3.3x1;fi@3.4x2;fl@4.3x3;i@9.9x9999;", 0, 3, "f@9.9x1;fi@3.4x2;fl@4.3x3;i@3.3x9999;"},
		{"f@3.3x1;fi@3.4x2;fl@4.3x3;i@9.9x9999;", 2, 1, "f@3.3x1;fi@4.3x2;fl@3.4x3;i@9.9x9999;"},
		{"f@3.3x1;fi@3.4x2;fl@4.3x3;i@9.9x9999;", 3, 3, "f@3.3x1;fi@3.4x2;fl@4.3x3;i@9.9x9999;"},
	}
	for _, c := range cases {
		if l, ok := impl.SwapBoxes(readCase(c.l), c.a, c.b); !slices.Equal(l, readCase(c.want)) || !ok {
			t.Errorf("%d and %d of %s: %v %v", c.a, c.b, c.l, l, ok)
		}
	}
	for _, l := range validCases() {
		last := len(l) - 1
		for _, i := range []int{-1, -2, -last - 1, len(l), len(l) + 1, 32, 33, 100, math.MaxInt, math.MinInt} {
			for _, pair := range [][2]int{{i, 0}, {0, i}, {i, last}, {last, i}, {i, i}} {
				if x, ok := impl.SwapBoxes(l, pair[0], pair[1]); len(x) != 0 || ok {
					t.Errorf("%v of %v: %v %v", pair, l, x, ok)
				}
			}
		}
		// The first and the last one.
		x, ok := impl.SwapBoxes(l, last, 0)
		if len(x) != len(l) || !ok || x[0] != boxOf(l[0].Code, l[last].Row, l[last].Column, l[0].Count) || x[last] != boxOf(l[last].Code, l[0].Row, l[0].Column, l[last].Count) {
			t.Errorf("%v: %v %v", l, x, ok)
		}
	}
}

func TestBestSwap(t *testing.T) {
	cases := []struct {
		l         string
		codes     []string
		a, b, way int
	}{
		{"a@0.0x5;b@2.1x0;", strings.Fields("a b a"), 0, 1, 9}, // it makes the way longer, but it is the only one
		{"a@0.0x5;b@2.1x0;", strings.Fields("b a b"), 0, 1, 6},
		{"a@0.0x5;b@2.1x0;", strings.Fields("b"), 0, 1, 0},
		{"a@0.0x5;b@2.1x0;", strings.Fields("a"), 0, 1, 3},
		{"a@0.0x5;b@2.1x0;", nil, 0, 1, 0},
		{"a@0.0x5;b@2.1x0;", manyCodes("b", 60), 0, 1, 0},
		{"a@0.0x1;b@0.1x1;c@0.2x1;d@0.3x1;", nil, 0, 1, 0},
		// No shorter: the way stays 1 if only what is not used is exchanged.
		{"a@0.0x1;b@0.1x1;c@0.2x1;d@0.3x1;", strings.Fields("a b"), 2, 3, 1},
		{"a@0.0x1;b@0.1x1;c@0.2x1;", strings.Fields("a b c"), 1, 2, 3}, // 2 before, and 4 for the other two
		// Several are equally good.
		{"a@0.0x1;b@0.1x1;c@0.2x1;d@0.3x1;", strings.Fields("d"), 0, 3, 0},
		{"a@0.0x1;b@0.1x1;c@0.2x1;d@0.3x1;", strings.Fields("a"), 1, 2, 0},
		{"a@0.1x1;b@0.3x1;c@1.0x1;d@0.2x1;", strings.Fields("b"), 0, 1, 1}, // the places of a and of c
		{"a@0.3x1;b@1.0x1;c@0.1x1;d@0.2x1;", strings.Fields("a"), 0, 1, 1},
		{"a@5.5x1;b@0.1x1;c@9.9x1;d@1.0x1;", strings.Fields("c"), 1, 2, 1},
		{"a@9.9x1;b@8.8x1;c@1.0x1;d@0.1x1;", strings.Fields("b"), 1, 2, 1},
		{"a@9.9x1;b@8.8x1;c@1.0x1;d@0.1x1;", strings.Fields("a"), 0, 2, 1},
		{"a@0.0x1;b@0.9x1;c@9.0x1;d@9.9x1;", strings.Fields("d"), 0, 3, 0},
		{"a@0.0x1;b@0.9x1;c@9.0x1;d@9.9x1;", strings.Fields("d a"), 0, 3, 18},
		{"a@0.0x1;b@0.9x1;c@9.0x1;d@9.9x1;", strings.Fields("a d"), 1, 3, 9},
		{"a@0.0x1;b@0.9x1;c@9.0x1;d@9.9x1;", strings.Fields("a d a d"), 1, 3, 27},
		// Only the last two are the best ones.
		{"a@0.0x1;b@0.1x1;c@9.9x1;d@0.2x1;", strings.Fields("a b c"), 2, 3, 2},
		{"m@0.9x9999;n@9.0x0;", strings.Fields("m n"), 0, 1, 27},
	}
	for _, c := range cases {
		if a, b, n, ok := impl.BestSwap(readCase(c.l), c.codes); a != c.a || b != c.b || n != c.way || !ok {
			t.Errorf("%v in %s: %d and %d with %d %v", c.codes, c.l, a, b, n, ok)
		}
	}
	for _, l := range []string{"a@0.0x5;", "a@9.9x0;"} {
		for _, codes := range [][]string{nil, {"a"}, manyCodes("a", 60)} {
			if a, b, n, ok := impl.BestSwap(readCase(l), codes); a != 0 || b != 0 || n != 0 || ok {
				t.Errorf("%v in %s: %d and %d with %d %v", codes, l, a, b, n, ok)
			}
		}
	}
	l := fullRows(32)
	if a, b, n, ok := impl.BestSwap(l, []string{l[31].Code}); a != 0 || b != 31 || n != 0 || !ok {
		t.Error("32 boxes, the last one", a, b, n, ok)
	}
	// The second one stays as near in 1.0, the place of the box 10.
	if a, b, n, ok := impl.BestSwap(l, []string{l[0].Code, l[1].Code}); a != 1 || b != 10 || n != 1 || !ok {
		t.Error("32 boxes, the first two", a, b, n, ok)
	}
}

func TestNearestFree(t *testing.T) {
	cross := "a@4.5x1;b@5.4x1;c@5.5x1;d@5.6x1;e@6.5x1;"
	cases := []struct {
		l                string
		row, column      int
		wantRow, wantCol int
	}{
		{"a@0.0x5;b@2.1x0;", 0, 0, 0, 1},
		{"a@0.0x5;b@2.1x0;", 2, 1, 1, 1},
		{"a@0.0x5;b@2.1x0;", 2, 0, 2, 0}, // it is free itself
		{"a@0.0x5;b@2.1x0;", 9, 9, 9, 9},
		{"a@0.0x5;b@2.1x0;", 0, 9, 0, 9},
		{"a@0.0x5;b@2.1x0;", 9, 0, 9, 0},
		{"a@0.0x5;b@2.1x0;", 0, 1, 0, 1},
		// Of 4 neighbours the upper one, then the left one, the right one and the lower one.
		{"c@5.5x1;", 5, 5, 4, 5},
		{"b@4.5x1;c@5.5x1;", 5, 5, 5, 4},
		{"b@4.5x1;c@5.4x1;d@5.5x1;", 5, 5, 5, 6},
		{"b@4.5x1;c@5.4x1;d@5.5x1;e@5.6x1;", 5, 5, 6, 5},
		{cross, 5, 5, 3, 5},
		{cross + "f@3.5x1;", 5, 5, 4, 4},
		{cross + "f@3.5x1;g@4.4x1;", 5, 5, 4, 6},
		{cross + "f@3.5x1;g@4.4x1;h@4.6x1;", 5, 5, 5, 3},
		{cross + "f@3.5x1;g@4.4x1;h@4.6x1;i@5.3x1;", 5, 5, 5, 7},
		{cross + "f@3.5x1;g@4.4x1;h@4.6x1;i@5.3x1;j@5.7x1;", 5, 5, 6, 4},
		{cross + "f@3.5x1;g@4.4x1;h@4.6x1;i@5.3x1;j@5.7x1;k@6.4x1;", 5, 5, 6, 6},
		{cross + "f@3.5x1;g@4.4x1;h@4.6x1;i@5.3x1;j@5.7x1;k@6.4x1;l@6.6x1;", 5, 5, 7, 5},
		{cross, 4, 5, 3, 5},
		{cross, 6, 5, 6, 4},
		// The corners.
		{"a@0.0x1;", 0, 0, 0, 1},
		{"a@0.9x1;", 0, 9, 0, 8},
		{"a@9.0x1;", 9, 0, 8, 0},
		{"a@9.9x1;", 9, 9, 8, 9},
		{"a@0.0x1;b@0.1x1;", 0, 0, 1, 0},
		{"a@0.0x1;b@0.1x1;c@1.0x1;", 0, 0, 0, 2},
		{"a@8.9x1;b@9.9x1;", 9, 9, 9, 8},
		{"a@8.9x1;b@9.8x1;c@9.9x1;", 9, 9, 7, 9},
		{"a@0.8x1;b@0.9x1;", 0, 9, 1, 9},
		{"a@8.0x1;b@9.0x1;", 9, 0, 9, 1},
	}
	for _, c := range cases {
		if row, column, ok := impl.NearestFree(readCase(c.l), c.row, c.column); row != c.wantRow || column != c.wantCol || !ok {
			t.Errorf("%d.%d in %s: %d.%d %v", c.row, c.column, c.l, row, column, ok)
		}
	}
	l := fullRows(32) // three rows, and 3.0 and 3.1
	for _, c := range [][4]int{{0, 0, 4, 0}, {0, 1, 3, 2}, {0, 2, 3, 2}, {0, 9, 3, 9}, {1, 0, 4, 0}, {2, 0, 4, 0}, {2, 1, 3, 2}, {3, 0, 4, 0}, {3, 1, 3, 2}, {3, 2, 3, 2}} {
		if row, column, ok := impl.NearestFree(l, c[0], c[1]); row != c[2] || column != c[3] || !ok {
			t.Errorf("%v: %d.%d %v", c, row, column, ok)
		}
	}
	for _, l := range validCases() {
		for _, n := range []int{-1, 10, -10, 11, 100, math.MaxInt, math.MinInt} {
			for _, p := range [][2]int{{n, 0}, {0, n}, {n, 5}, {5, n}, {9, n}, {n, 9}, {n, n}} {
				if row, column, ok := impl.NearestFree(l, p[0], p[1]); row != 0 || column != 0 || ok {
					t.Errorf("%v in %v: %d.%d %v", p, l, row, column, ok)
				}
			}
		}
	}
}

// moveCases tell what a case is without types, and with them again.
var moveCases = []struct {
	with    string
	codes   []string
	without string
}{
	{"a@0.0x5;b@2.1x0;", nil, "a@0.0x5;b@2.1x0;"},
	{"a@0.0x5;b@2.1x0;", []string{}, "a@0.0x5;b@2.1x0;"},
	{"a@0.0x5;b@2.1x0;", strings.Fields("a"), "a@0.0x4;b@2.1x0;"},
	{"a@0.0x5;b@2.1x0;", strings.Fields("a a a a"), "a@0.0x1;b@2.1x0;"},
	{"a@0.0x5;b@2.1x0;", manyCodes("a", 5), "a@0.0x0;b@2.1x0;"}, // just enough
	{"a@0.0x7;b@2.1x1;", strings.Fields("a b a"), "a@0.0x5;b@2.1x0;"},
	{"a@0.0x60;b@2.1x1;", manyCodes("a", 60), "a@0.0x0;b@2.1x1;"},
	{"a@0.0x30;b@2.1x30;", slices.Repeat([]string{"b", "a"}, 30), "a@0.0x0;b@2.1x0;"},
	{"m@9.9x9999;", strings.Fields("m"), "m@9.9x9998;"},
	{"m@9.9x9999;", manyCodes("m", 60), "m@9.9x9939;"},
	{"f@3.3x1;fi@3.4x2;fl@4.3x3;i@9.9x9999;", strings.Fields("fi i fl fi fl f fl"), "f@3.3x0;fi@3.4x0;fl@4.3x0;i@9.9x9998;"},
}

func TestTakeAndPutTypes(t *testing.T) {
	for _, c := range moveCases {
		if l, ok := impl.TakeTypes(readCase(c.with), c.codes); !slices.Equal(l, readCase(c.without)) || !ok {
			t.Errorf("%v of %s: %v %v", c.codes, c.with, l, ok)
		}
		if l, ok := impl.PutTypes(readCase(c.without), c.codes); !slices.Equal(l, readCase(c.with)) || !ok {
			t.Errorf("%v to %s: %v %v", c.codes, c.without, l, ok)
		}
	}
}

func TestTypesThatCannotBeMoved(t *testing.T) {
	tooFew := []struct {
		l     string
		codes []string
	}{
		{"a@0.0x5;b@2.1x0;", strings.Fields("b")},
		{"a@0.0x5;b@2.1x0;", strings.Fields("a b")},
		{"a@0.0x5;b@2.1x0;", strings.Fields("b a")},
		{"a@0.0x5;b@2.1x0;", manyCodes("a", 6)}, // one too few
		{"a@0.0x5;b@2.1x0;", manyCodes("a", 60)},
		{"a@0.0x59;b@2.1x1;", manyCodes("a", 60)},
		{"a@0.0x29;b@2.1x30;", slices.Repeat([]string{"b", "a"}, 30)},
		{"m@9.9x0;", strings.Fields("m")},
	}
	for _, c := range tooFew {
		if l, ok := impl.TakeTypes(readCase(c.l), c.codes); len(l) != 0 || ok {
			t.Errorf("%v of %s: %v %v", c.codes, c.l, l, ok)
		}
	}
	tooMany := []struct {
		l     string
		codes []string
	}{
		{"a@0.0x9999;b@2.1x0;", strings.Fields("a")},
		{"a@0.0x9999;b@2.1x0;", strings.Fields("b a")},
		{"a@0.0x9999;b@2.1x0;", strings.Fields("a b")},
		{"a@0.0x9998;b@2.1x0;", strings.Fields("a a")}, // one more than 9999
		{"a@0.0x9940;b@2.1x0;", manyCodes("a", 60)},
		{"a@0.0x0;b@2.1x9970;", slices.Repeat([]string{"b", "a"}, 30)},
		{"m@9.9x9999;", manyCodes("m", 60)},
	}
	for _, c := range tooMany {
		if l, ok := impl.PutTypes(readCase(c.l), c.codes); len(l) != 0 || ok {
			t.Errorf("%v to %s: %v %v", c.codes, c.l, l, ok)
		}
	}
}

func TestTypesIn(t *testing.T) {
	full := fullRows(32)
	for i := range full {
		full[i].Count = 9999
	}
	cases := []struct {
		l    []impl.Box
		want int
	}{
		{exampleCase(), 5},
		{readCase("a@0.0x0;"), 0},
		{readCase("a@0.0x0;b@9.9x0;"), 0},
		{readCase("m@9.9x9999;"), 9999},
		{readCase("f@3.3x1;fi@3.4x2;fl@4.3x3;i@9.9x9999;"), 10005}, // more than one box may have
		{fullRows(32), 528},
		{full, 319968},
	}
	for _, c := range cases {
		if n, ok := impl.TypesIn(c.l); n != c.want || !ok {
			t.Errorf("%v: %d %v", c.l, n, ok)
		}
	}
}

func TestCaseText(t *testing.T) {
	for _, text := range []string{"a@0.0x5;b@2.1x0;", "a@0.0x0;", "zzz@9.9x9999;", "m@0.9x9999;n@9.0x10;", "f@3.3x1;fi@3.4x20;fl@4.3x300;i@9.9x9999;"} {
		if s, ok := impl.CaseText(readCase(text)); s != text || !ok {
			t.Errorf("%s: %q %v", text, s, ok)
		}
	}
	var want strings.Builder
	l := fullRows(32)
	for _, b := range l {
		want.WriteString(b.Code + "@" + strconv.Itoa(b.Row) + "." + strconv.Itoa(b.Column) + "x" + strconv.Itoa(b.Count) + ";")
	}
	if s, ok := impl.CaseText(l); s != want.String() || !ok {
		t.Errorf("32 boxes: %q %v", s, ok)
	}
}

// randomCase returns a case of up to a number of boxes, in all places or in a few rows, with Counts that are small, great, or any.
func randomCase(r *rand.Rand, most int) []impl.Box {
	rows := 4 + r.Intn(7)
	places := r.Perm(rows * 10)
	codes := map[string]bool{}
	for range 1 + r.Intn(most) {
		codes[randomLetters(r, 3)] = true
	}
	var l []impl.Box
	for code := range codes {
		l = append(l, impl.Box{Code: code})
	}
	slices.SortFunc(l, func(a, b impl.Box) int { return strings.Compare(a.Code, b.Code) })
	for i := range l {
		l[i].Row, l[i].Column = places[i]/10, places[i]%10
		l[i].Count = []int{r.Intn(5), r.Intn(60), 9999 - r.Intn(5), r.Intn(10000)}[r.Intn(4)]
	}
	return l
}

// randomCodes returns codes of a few of the boxes of a case, or of all of them.
func randomCodes(r *rand.Rand, l []impl.Box) []string {
	used := 1 + r.Intn(len(l))
	var codes []string
	for range r.Intn(61) {
		codes = append(codes, l[(r.Intn(used)*7+3)%len(l)].Code)
	}
	return codes[:min(len(codes), []int{2, 6, 60}[r.Intn(3)])]
}

// boxWith finds the box with a Code by looking at all.
func boxWith(l []impl.Box, code string) int {
	return slices.IndexFunc(l, func(b impl.Box) bool { return b.Code == code })
}

// walk leads the hand from place to place, one row or one column at a time.
func walk(l []impl.Box, codes []string) int {
	row, column, way := 0, 0, 0
	for _, code := range codes {
		b := l[boxWith(l, code)]
		for ; row < b.Row; row++ {
			way++
		}
		for ; row > b.Row; row-- {
			way++
		}
		for ; column < b.Column; column++ {
			way++
		}
		for ; column > b.Column; column-- {
			way++
		}
	}
	return way
}

func TestRandomWaysAndSwaps(t *testing.T) {
	r := rand.New(rand.NewSource(21))
	shorter, same, longer := 0, 0, 0
	for range 1500 {
		l := randomCase(r, []int{3, 8, 32}[r.Intn(3)])
		codes := randomCodes(r, l)
		way, ok := impl.HandWay(l, codes)
		if way != walk(l, codes) || !ok {
			t.Fatalf("%v in %v: %d %v, want %d", codes, l, way, ok, walk(l, codes))
		}
		a, b, best, found := -1, -1, math.MaxInt, len(l) > 1
		for i := range l {
			for j := range l {
				swapped := slices.Clone(l)
				swapped[i].Row, swapped[i].Column = l[j].Row, l[j].Column
				swapped[j].Row, swapped[j].Column = l[i].Row, l[i].Column
				if x, ok := impl.SwapBoxes(l, i, j); !slices.Equal(x, swapped) || !ok || !impl.IsCase(x) {
					t.Fatalf("%d and %d of %v: %v %v", i, j, l, x, ok)
				}
				if n := walk(swapped, codes); i < j && n < best {
					a, b, best = i, j, n
				}
			}
		}
		if !found {
			a, b, best = 0, 0, 0
		}
		if x, y, n, ok := impl.BestSwap(l, codes); x != a || y != b || n != best || ok != found {
			t.Fatalf("%v in %v: %d and %d with %d %v, want %d and %d with %d", codes, l, x, y, n, ok, a, b, best)
		}
		switch {
		case !found:
		case best < way:
			shorter++
		case best == way:
			same++
		default:
			longer++
		}
	}
	if min(shorter, same, longer) < 20 {
		t.Error("too few:", shorter, same, longer)
	}
}

func TestRandomFreePlaces(t *testing.T) {
	r := rand.New(rand.NewSource(22))
	taken := 0
	for range 3000 {
		l := randomCase(r, 32)
		row, column := r.Intn(10), r.Intn(10)
		if r.Intn(2) == 0 {
			b := l[r.Intn(len(l))]
			row, column = b.Row, b.Column
			taken++
		}
		// Free places as their difference, row and column.
		var free [][]int
		for place := range 100 {
			p := []int{0, place / 10, place % 10}
			p[0] = int(math.Abs(float64(p[1]-row)) + math.Abs(float64(p[2]-column)))
			if !slices.ContainsFunc(l, func(b impl.Box) bool { return b.Row == p[1] && b.Column == p[2] }) {
				free = append(free, p)
			}
		}
		want := slices.MinFunc(free, slices.Compare)
		x, y, ok := impl.NearestFree(l, row, column)
		if x != want[1] || y != want[2] || !ok {
			t.Fatalf("%d.%d in %v: %d.%d %v, want %v", row, column, l, x, y, ok, want)
		}
	}
	if taken < 500 {
		t.Error("only", taken)
	}
}

// TestRandomTypes checks that types are taken just if there are enough, and that what is taken can be put back, and the other way round.
func TestRandomTypes(t *testing.T) {
	r := rand.New(rand.NewSource(23))
	took, put, failedToTake, failedToPut := 0, 0, 0, 0
	for range 10000 {
		l := randomCase(r, []int{2, 8, 32}[r.Intn(3)])
		codes := randomCodes(r, l)
		if r.Intn(2) == 0 {
			codes = codes[:min(len(codes), 3)]
		}
		before := slices.Clone(l)
		taken, canTake := movedTypes(l, codes, -1)
		more, canPut := movedTypes(l, codes, 1)
		x, ok := impl.TakeTypes(l, codes)
		checkMoved(t, l, codes, x, ok, taken, canTake)
		if ok {
			took++
			if back, ok := impl.PutTypes(x, codes); !slices.Equal(back, before) || !ok {
				t.Fatalf("%v of %v, put back: %v %v", codes, l, back, ok)
			}
		} else {
			failedToTake++
		}
		x, ok = impl.PutTypes(l, codes)
		checkMoved(t, l, codes, x, ok, more, canPut)
		if ok {
			put++
			if back, ok := impl.TakeTypes(x, codes); !slices.Equal(back, before) || !ok {
				t.Fatalf("%v to %v, taken again: %v %v", codes, l, back, ok)
			}
		} else {
			failedToPut++
		}
	}
	if min(took, put, failedToTake, failedToPut) < 500 {
		t.Error("too few:", took, put, failedToTake, failedToPut)
	}
}

// movedTypes moves types one by one; it tells also whether each Count stays within its bounds.
func movedTypes(l []impl.Box, codes []string, by int) ([]impl.Box, bool) {
	moved := slices.Clone(l)
	for _, code := range codes {
		b := &moved[boxWith(moved, code)]
		b.Count += by
		if b.Count < 0 || b.Count > 9999 {
			return nil, false
		}
	}
	return moved, true
}

func checkMoved(t *testing.T, l []impl.Box, codes []string, got []impl.Box, ok bool, want []impl.Box, can bool) {
	t.Helper()
	if !slices.Equal(got, want) || ok != can {
		t.Fatalf("%v moved in %v: %v %v, want %v %v", codes, l, got, ok, want, can)
	}
	if !ok {
		return
	}
	all, _ := impl.TypesIn(l)
	n, good := impl.TypesIn(got)
	if moved := max(n-all, all-n); moved != len(codes) || !good {
		t.Fatalf("%v moved in %v: %d types before, %d behind", codes, l, all, n)
	}
}

func TestRandomCaseTexts(t *testing.T) {
	r := rand.New(rand.NewSource(24))
	for range 2000 {
		l := randomCase(r, 32)
		all := 0
		for _, b := range l {
			all += b.Count
		}
		if n, ok := impl.TypesIn(l); n != all || !ok || !impl.IsCase(l) {
			t.Fatalf("%v: %d %v", l, n, ok)
		}
		text, ok := impl.CaseText(l)
		if !ok || strings.Count(text, ";") != len(l) || !slices.Equal(readCase(text), l) {
			t.Fatalf("%v: %q %v", l, text, ok)
		}
		// No case is left when two boxes are exchanged, or put at one place.
		if i := r.Intn(len(l)); i > 0 {
			x := slices.Clone(l)
			x[i], x[i-1] = x[i-1], x[i]
			y := slices.Clone(l)
			j := r.Intn(i)
			y[i].Row, y[i].Column = y[j].Row, y[j].Column
			if impl.IsCase(x) || impl.IsCase(y) {
				t.Fatalf("%v or %v is no case", x, y)
			}
		}
	}
}

// refuseCodes checks that no function on a case and codes takes these.
func refuseCodes(t *testing.T, l []impl.Box, codes []string) {
	t.Helper()
	if n, ok := impl.HandWay(l, codes); n != 0 || ok {
		t.Errorf("way of %.100q in %.100v: %d %v", codes, l, n, ok)
	}
	if a, b, n, ok := impl.BestSwap(l, codes); a != 0 || b != 0 || n != 0 || ok {
		t.Errorf("best exchange for %.100q in %.100v: %d %d %d %v", codes, l, a, b, n, ok)
	}
	if x, ok := impl.TakeTypes(l, codes); len(x) != 0 || ok {
		t.Errorf("%.100q of %.100v: %v %v", codes, l, x, ok)
	}
	if x, ok := impl.PutTypes(l, codes); len(x) != 0 || ok {
		t.Errorf("%.100q to %.100v: %v %v", codes, l, x, ok)
	}
}

func TestInvalidCases(t *testing.T) {
	for _, l := range invalidCases() {
		for _, codes := range append(invalidCodes(), nil, []string{"a"}, []string{"a", "b"}, []string{"m"}, []string{"x", "y"}, []string{"aa"}) {
			refuseCodes(t, l, codes)
		}
		for _, code := range []string{"a", "b", "m", "x", "aa", "bg", "", "abcd"} {
			if n, ok := impl.BoxOf(l, code); n != 0 || ok {
				t.Errorf("%s in %.100v: %d %v", code, l, n, ok)
			}
		}
		for _, i := range []int{0, 1, 2, len(l) - 1, -1, len(l), math.MaxInt, math.MinInt} {
			for _, j := range []int{0, 1, i} {
				if x, ok := impl.SwapBoxes(l, i, j); len(x) != 0 || ok {
					t.Errorf("%d and %d of %.100v: %v %v", i, j, l, x, ok)
				}
			}
			if row, column, ok := impl.NearestFree(l, i, 5); row != 0 || column != 0 || ok {
				t.Errorf("%d.5 in %.100v: %d.%d %v", i, l, row, column, ok)
			}
		}
		if n, ok := impl.TypesIn(l); n != 0 || ok {
			t.Errorf("types in %.100v: %d %v", l, n, ok)
		}
		if s, ok := impl.CaseText(l); s != "" || ok {
			t.Errorf("text of %.100v: %q %v", l, s, ok)
		}
	}
}

func TestInvalidCodes(t *testing.T) {
	// There are enough types, and room for more.
	for _, codes := range invalidCodes() {
		refuseCodes(t, readCase("a@0.0x5000;b@2.1x5000;"), codes)
		refuseCodes(t, readCase("a@0.0x5000;b@0.1x5000;d@0.2x5000;e@0.3x5000;"), codes)
	}
	// 60 codes are taken by all.
	l, codes := readCase("a@0.0x5000;b@2.1x5000;"), append(manyCodes("a", 59), "b")
	if n, ok := impl.HandWay(l, codes); n != 3 || !ok {
		t.Error("way", n, ok)
	}
	if a, b, n, ok := impl.BestSwap(l, codes); a != 0 || b != 1 || n != 6 || !ok {
		t.Error("best exchange", a, b, n, ok)
	}
	if x, ok := impl.TakeTypes(l, codes); !slices.Equal(x, readCase("a@0.0x4941;b@2.1x4999;")) || !ok {
		t.Error("taken", x, ok)
	}
	if x, ok := impl.PutTypes(l, codes); !slices.Equal(x, readCase("a@0.0x5059;b@2.1x5001;")) || !ok {
		t.Error("put", x, ok)
	}
}

// caseResults are the results of all functions on a case, each with its success.
type caseResults struct {
	numbers              [9]int
	text                 string
	isCase               bool
	done                 [8]bool
	swapped, taken, more []impl.Box
}

func caseResultsOf(l []impl.Box, codes []string, a, b int) (c caseResults) {
	code := "a"
	if len(codes) > 0 {
		code = codes[0]
	}
	c.isCase = impl.IsCase(l)
	c.numbers[0], c.done[0] = impl.BoxOf(l, code)
	c.numbers[1], c.done[1] = impl.HandWay(l, codes)
	c.swapped, c.done[2] = impl.SwapBoxes(l, a, b)
	c.numbers[2], c.numbers[3], c.numbers[4], c.done[3] = impl.BestSwap(l, codes)
	c.numbers[5], c.numbers[6], c.done[4] = impl.NearestFree(l, a, b)
	c.taken, c.done[5] = impl.TakeTypes(l, codes)
	c.more, c.done[6] = impl.PutTypes(l, codes)
	c.numbers[7], c.done[7] = impl.TypesIn(l)
	c.text, _ = impl.CaseText(l)
	return c
}

// sameCaseResults compares results; their lists are overwritten.
func sameCaseResults(a, b caseResults) bool {
	same := slices.Equal(a.swapped, b.swapped) && slices.Equal(a.taken, b.taken) && slices.Equal(a.more, b.more)
	for _, l := range [][]impl.Box{a.swapped, a.taken, a.more, b.swapped, b.taken, b.more} {
		overwrite(l, true)
	}
	return same && a.numbers == b.numbers && a.text == b.text && a.isCase == b.isCase && a.done == b.done
}

// TestCasesStay calls the functions with lists that have spare capacity, of which they must neither take nor change anything, and overwrites the results.
func TestCasesStay(t *testing.T) {
	for _, given := range append(invalidCases(), validCases()...) {
		for _, texts := range [][]string{nil, {"a"}, {"a", "a", "b"}, {"m"}, {"fi", "f", "i"}, {"aa", "ab", "aa"}, {"zzz"}, {"c"}, manyCodes("a", 60), manyCodes("a", 61)} {
			for _, pair := range [][2]int{{0, 0}, {0, 1}, {1, 0}, {0, len(given) - 1}, {len(given), 0}, {-1, 3}} {
				l, caseStays := guarded(t, "case", given, boxOf("zzz", 8, 8, 5))
				codes, codesStay := guarded(t, "codes", texts, "a")
				plain := caseResultsOf(slices.Clip(slices.Clone(given)), slices.Clip(slices.Clone(texts)), pair[0], pair[1])
				c := caseResultsOf(l, codes, pair[0], pair[1])
				for _, x := range [][]impl.Box{c.swapped, c.taken, c.more} {
					if shareMemory(x, l) {
						t.Errorf("%.100v, %.100q, %v: a result shares memory with the case", given, texts, pair)
					}
				}
				if shareMemory(c.taken, c.more) || shareMemory(c.swapped, c.taken) || shareMemory(c.swapped, c.more) {
					t.Errorf("%.100v, %.100q, %v: results share memory", given, texts, pair)
				}
				if !sameCaseResults(c, plain) {
					t.Errorf("%.100v, %.100q, %v: %v, without spare capacity %v", given, texts, pair, c, plain)
				}
				caseStays()
				codesStay()
			}
		}
	}
}

// TestCaseResultsAreNew checks that the same call gives the same result when an earlier one has been overwritten.
func TestCaseResultsAreNew(t *testing.T) {
	l, codes := exampleCase(), []string{"a", "a"}
	for range 2 {
		swapped, _ := impl.SwapBoxes(l, 0, 1)
		same, _ := impl.SwapBoxes(l, 1, 1)
		taken, _ := impl.TakeTypes(l, codes)
		more, _ := impl.PutTypes(l, codes)
		none, _ := impl.TakeTypes(l, nil)
		if !slices.Equal(swapped, readCase("a@2.1x5;b@0.0x0;")) || !slices.Equal(same, l) || !slices.Equal(taken, readCase("a@0.0x3;b@2.1x0;")) || !slices.Equal(more, readCase("a@0.0x7;b@2.1x0;")) || !slices.Equal(none, l) {
			t.Error(swapped, same, taken, more, none)
		}
		for _, x := range [][]impl.Box{swapped, same, taken, more, none} {
			overwrite(x, true)
		}
		if !slices.Equal(l, exampleCase()) {
			t.Fatal("the case was changed to", l)
		}
	}
}
