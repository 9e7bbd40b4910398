package tests

import (
	"math"
	"math/rand"
	"slices"
	"strings"
	"testing"

	"loop.example/g01054/impl"
)

func entryOf(column, span, wide int) impl.Entry {
	return impl.Entry{Column: column, Span: span, Wide: wide}
}

// readEntries reads entries like 0/2/70, Column, Span and Wide, separated by blanks.
func readEntries(text string) []impl.Entry {
	var l []impl.Entry
	for _, entry := range strings.Fields(text) {
		x := readNumbers(entry, "/")
		l = append(l, entryOf(x[0], x[1], x[2]))
	}
	return l
}

const exampleTable = "0/1/30 1/1/20 0/2/70"

// eachColumn returns an entry of a width in each of n columns.
func eachColumn(n, wide int) []impl.Entry {
	var l []impl.Entry
	for column := range n {
		l = append(l, entryOf(column, 1, wide))
	}
	return l
}

var farNumbers = []int{math.MinInt, math.MinInt + 1, -(1 << 32), -1000, 1000, 10000, 1 << 32, 1<<32 + 1, math.MaxInt - 1, math.MaxInt}

var (
	invalidColumns = append([]int{0, -1, -2, 11, 12, 100}, farNumbers...)
	invalidGaps    = append([]int{-1, -2, -36, 37, 38, 100}, farNumbers...)
	invalidTotals  = []int{-1, -2, -70, -5000, math.MinInt, math.MinInt + 1, 5001, 5002, 6324, 10000, 1 << 32, math.MaxInt - 1, math.MaxInt}
)

// validTables returns tables of n columns.
func validTables(n int) [][]impl.Entry {
	last, half := n-1, (n+1)/2
	return [][]impl.Entry{
		nil, {},
		{entryOf(0, 1, 0)}, {entryOf(0, 1, 600)}, {entryOf(last, 1, 1)}, {entryOf(last, 1, 600)}, {entryOf(0, n, 0)}, {entryOf(0, n, 600)},
		{entryOf(0, 1, 30), entryOf(last, 1, 20), entryOf(0, n, 70)},
		{entryOf(0, half, 50), entryOf(n-half, half, 40), entryOf(0, half, 50)},
		eachColumn(n, 0), eachColumn(n, 7), eachColumn(n, 600), append(eachColumn(n, 9), entryOf(0, n, 600), entryOf(0, n, 600)),
		slices.Repeat([]impl.Entry{entryOf(last, 1, 12)}, 20), slices.Repeat([]impl.Entry{entryOf(0, n, 333)}, 20), slices.Concat(eachColumn(n, 100), eachColumn(n, 100)),
	}
}

// invalidEntries returns what are no entries of a table of n columns.
func invalidEntries(n int) []impl.Entry {
	l := []impl.Entry{
		{}, {Column: 0, Span: 0, Wide: 10}, {Column: n - 1, Span: 0, Wide: 10}, {Column: n, Span: 0, Wide: 0}, {Column: 0, Span: -1, Wide: 10}, {Column: 0, Span: -n, Wide: 10}, {Column: 1, Span: -1, Wide: 10}, // Span less than 1
		{Column: -1, Span: 1, Wide: 10}, {Column: -1, Span: 2, Wide: 10}, {Column: -1, Span: n, Wide: 10}, {Column: -n, Span: n, Wide: 10}, {Column: n, Span: 1, Wide: 10}, {Column: n + 1, Span: 1, Wide: 10}, {Column: n, Span: -1, Wide: 10}, // Column outside
		{Column: 0, Span: n + 1, Wide: 10}, {Column: 0, Span: 100, Wide: 10}, {Column: n - 1, Span: 2, Wide: 10}, {Column: n / 2, Span: n - n/2 + 1, Wide: 10}, {Column: 1, Span: n, Wide: 10}, // over the end
		{Column: 0, Span: 1, Wide: -1}, {Column: 0, Span: n, Wide: -1}, {Column: n - 1, Span: 1, Wide: -600}, {Column: 0, Span: 1, Wide: 601}, {Column: 0, Span: n, Wide: 601}, {Column: 0, Span: n, Wide: 600 * n * 2}, // Wide outside
	}
	for _, far := range farNumbers {
		l = append(l, entryOf(far, 1, 10), entryOf(far, n, 10), entryOf(0, far, 10), entryOf(n-1, far, 10), entryOf(0, 1, far), entryOf(0, n, far))
		// Sums of these overflow.
		l = append(l, entryOf(far, far, far), entryOf(far, math.MaxInt, 10), entryOf(far, math.MinInt, 10), entryOf(math.MaxInt, far, 10), entryOf(math.MinInt, far, 10), entryOf(far, -far, 10), entryOf(far, 1-far, 10))
	}
	return l
}

// invalidTables returns entries that are no table of n columns.
func invalidTables(n int) [][]impl.Entry {
	lists := [][]impl.Entry{
		slices.Repeat(eachColumn(1, 10), 21), slices.Repeat(eachColumn(1, 10), 22), slices.Repeat(eachColumn(1, 10), 1000), slices.Repeat([]impl.Entry{entryOf(0, n, 10)}, 21),
		make([]impl.Entry, 1), make([]impl.Entry, 20), make([]impl.Entry, 21),
	}
	full := slices.Repeat(eachColumn(1, 10), 20)
	for i, x := range invalidEntries(n) {
		lists = append(lists, []impl.Entry{x}, []impl.Entry{entryOf(0, 1, 30), x}, []impl.Entry{x, entryOf(0, 1, 30)}, []impl.Entry{entryOf(0, 1, 30), x, entryOf(n-1, 1, 30)})
		lists = append(lists, append(slices.Clone(full[:19]), x), slices.Concat(full[:i%20], []impl.Entry{x}, full[:19-i%20]))
	}
	return lists
}

func TestTableConstants(t *testing.T) {
	if impl.MaxEntries != 20 || impl.MaxTable != 5000 {
		t.Error(impl.MaxEntries, impl.MaxTable)
	}
}

func TestIsTable(t *testing.T) {
	for n := 1; n <= 10; n++ {
		for _, l := range validTables(n) {
			if !impl.IsTable(n, l) {
				t.Errorf("%d columns, %v is a table", n, l)
			}
		}
		for _, l := range invalidTables(n) {
			if impl.IsTable(n, l) {
				t.Errorf("%d columns, %.100v is no table", n, l)
			}
		}
	}
	for n := -5; n < 30; n++ {
		if valid := n >= 1 && n <= 10; impl.IsTable(n, nil) != valid || impl.IsTable(n, []impl.Entry{}) != valid || impl.IsTable(n, readEntries("0/1/30")) != valid {
			t.Error("columns", n)
		}
		entries := max(n, 0)
		if impl.IsTable(1, slices.Repeat(readEntries("0/1/30"), entries)) != (entries <= 20) || impl.IsTable(10, slices.Repeat(readEntries("0/10/30"), entries)) != (entries <= 20) {
			t.Error("entries", entries)
		}
	}
	for _, n := range invalidColumns {
		for _, text := range []string{"", "0/1/30", exampleTable, "0/10/30", "0/11/30", "10/1/30", "0/0/0", "0/-1/10"} {
			if impl.IsTable(n, readEntries(text)) {
				t.Errorf("%d columns, %s is no table", n, text)
			}
		}
	}
}

// TestAllPlacesOfEntries uses all Columns and Spans, and all Wides.
func TestAllPlacesOfEntries(t *testing.T) {
	for n := 1; n <= 10; n++ {
		for column := -3; column <= 14; column++ {
			for span := -3; span <= 14; span++ {
				valid := column >= 0 && span >= 1 && column+span <= n
				if impl.IsTable(n, []impl.Entry{entryOf(column, span, 40)}) != valid || impl.IsTable(n, []impl.Entry{entryOf(0, 1, 30), entryOf(column, span, 40), entryOf(0, n, 50)}) != valid {
					t.Errorf("%d columns: column %d, span %d", n, column, span)
				}
			}
		}
		for wide := -50; wide <= 650; wide++ {
			valid := wide >= 0 && wide <= 600
			if impl.IsTable(n, []impl.Entry{entryOf(n-1, 1, wide)}) != valid || impl.IsTable(n, []impl.Entry{entryOf(0, 1, 30), entryOf(0, n, wide)}) != valid {
				t.Errorf("%d columns: wide %d", n, wide)
			}
		}
	}
}

// tableCases tell the starts, the widths and the total width, the greatest starts with this one, and the rooms of the entries.
var tableCases = []struct {
	n, gap               int
	entries              string
	starts, widths       string
	width                int
	latest, rooms, tight string
}{
	{2, 6, exampleTable, "0 36", "30 34", 70, "0 50", "14 14 0", "2"},
	// No entry.
	{1, 0, "", "0", "0", 0, "0", "", ""},
	{1, 36, "", "0", "0", 0, "0", "", ""},
	{2, 0, "", "0 0", "0 0", 0, "0 0", "", ""},
	{2, 36, "", "0 36", "0 0", 36, "0 36", "", ""},
	{3, 5, "", "0 5 10", "0 0 0", 10, "0 5 10", "", ""},
	{10, 0, "", "0 0 0 0 0 0 0 0 0 0", "0 0 0 0 0 0 0 0 0 0", 0, "0 0 0 0 0 0 0 0 0 0", "", ""},
	{10, 36, "", "0 36 72 108 144 180 216 252 288 324", "0 0 0 0 0 0 0 0 0 0", 324, "0 36 72 108 144 180 216 252 288 324", "", ""},
	// One column.
	{1, 0, "0/1/0", "0", "0", 0, "0", "0", "0"},
	{1, 6, "0/1/1", "0", "1", 1, "0", "0", "0"},
	{1, 36, "0/1/600", "0", "600", 600, "0", "0", "0"},
	{1, 6, "0/1/30 0/1/20 0/1/0", "0", "30", 30, "0", "0 10 30", "0"},
	{1, 6, "0/1/20 0/1/30 0/1/25", "0", "30", 30, "0", "10 0 5", "1"},
	{1, 6, "0/1/30 0/1/30", "0", "30", 30, "0", "0 0", "0 1"}, // the same entry twice
	{1, 6, "0/1/30 0/1/20 0/1/30", "0", "30", 30, "0", "0 10 0", "0 2"},
	{1, 0, "0/1/0 0/1/0", "0", "0", 0, "0", "0 0", "0 1"},
	// Two columns.
	{2, 0, "0/1/30 1/1/20", "0 30", "30 20", 50, "0 30", "0 0", "0 1"},
	{2, 6, "1/1/20 0/1/30", "0 36", "30 20", 56, "0 36", "0 0", "0 1"},
	{2, 6, "0/1/30", "0 36", "30 0", 36, "0 36", "0", "0"},
	{2, 6, "1/1/30", "0 6", "0 30", 36, "0 6", "0", "0"},
	{2, 6, "0/2/30", "0 6", "0 24", 30, "0 30", "0", "0"},
	{2, 6, "0/1/10 0/2/30", "0 16", "10 14", 30, "0 30", "14 0", "1"},
	{2, 6, "1/1/10 0/2/30", "0 6", "0 24", 30, "0 20", "14 0", "1"},
	{2, 6, "0/1/30 1/1/20 0/2/56", "0 36", "30 20", 56, "0 36", "0 0 0", "0 1 2"},
	{2, 6, "0/1/30 1/1/20 0/2/55", "0 36", "30 20", 56, "0 36", "0 0 1", "0 1"},
	{2, 6, "0/1/30 1/1/20 0/2/57", "0 36", "30 21", 57, "0 37", "1 1 0", "2"},
	{2, 6, "0/2/70 0/2/70 0/2/60", "0 6", "0 64", 70, "0 70", "0 0 10", "0 1"},
	{2, 36, "0/1/600 1/1/600", "0 636", "600 600", 1236, "0 636", "0 0", "0 1"},
	// The gaps alone are wider than the entries.
	{2, 10, "0/2/3", "0 10", "0 0", 10, "0 10", "7", ""},
	{2, 10, "0/2/0", "0 10", "0 0", 10, "0 10", "10", ""},
	{2, 10, "0/2/9", "0 10", "0 0", 10, "0 10", "1", ""},
	{2, 10, "0/2/10", "0 10", "0 0", 10, "0 10", "0", "0"},
	{2, 10, "0/2/11", "0 10", "0 1", 11, "0 11", "0", "0"},
	{2, 4, "0/1/0 1/1/0 0/2/4", "0 4", "0 0", 4, "0 4", "0 0 0", "0 1 2"},
	{3, 36, "0/3/71", "0 36 72", "0 0 0", 72, "0 36 72", "1", ""},
	{3, 36, "0/3/72", "0 36 72", "0 0 0", 72, "0 36 72", "0", "0"},
	{3, 36, "0/3/73", "0 36 72", "0 0 1", 73, "0 37 73", "0", "0"},
	{3, 36, "0/2/20 1/2/30", "0 36 72", "0 0 0", 72, "0 36 72", "16 6", ""},
	{10, 36, "0/10/324", "0 36 72 108 144 180 216 252 288 324", "0 0 0 0 0 0 0 0 0 0", 324, "0 36 72 108 144 180 216 252 288 324", "0", "0"},
	{10, 36, "0/10/100 4/3/0", "0 36 72 108 144 180 216 252 288 324", "0 0 0 0 0 0 0 0 0 0", 324, "0 36 72 108 144 180 216 252 288 324", "224 72", ""},
	// Over all columns, and over some.
	{3, 5, "0/1/10 1/1/20 2/1/30 0/3/100", "0 15 40", "10 20 60", 100, "0 45 70", "30 30 30 0", "3"},
	{3, 5, "0/1/10 1/1/20 2/1/30 0/3/70", "0 15 40", "10 20 30", 70, "0 15 40", "0 0 0 0", "0 1 2 3"},
	{3, 5, "0/1/10 1/1/20 2/1/30 0/3/60", "0 15 40", "10 20 30", 70, "0 15 40", "0 0 0 10", "0 1 2"},
	{3, 5, "0/3/100 2/1/30 1/1/20 0/1/10", "0 15 40", "10 20 60", 100, "0 45 70", "0 30 30 30", "0"},
	{3, 5, "0/1/10 1/2/60", "0 15 20", "10 0 55", 75, "0 15 75", "0 0", "0 1"},
	{3, 5, "0/2/60 2/1/10", "0 5 65", "0 55 10", 75, "0 60 65", "0 0", "0 1"},
	{4, 3, "0/1/10 3/1/5 1/2/40", "0 13 16 56", "10 0 37 5", 61, "0 13 53 56", "0 0 0", "0 1 2"},
	// Overlapping.
	{3, 2, "0/2/20 1/2/30", "0 2 22", "0 18 10", 32, "0 2 32", "10 0", "1"},
	{3, 2, "0/2/30 1/2/20", "0 2 32", "0 28 0", 32, "0 12 32", "0 10", "0"},
	{3, 2, "0/2/30 1/2/20 1/1/25", "0 2 32", "0 28 0", 32, "0 5 32", "0 10 3", "0"},
	{3, 0, "0/2/50 2/1/10 1/2/55 0/1/5", "0 5 50", "5 45 10", 60, "0 5 50", "0 0 0 0", "0 1 2 3"},
	{3, 0, "0/2/50 2/1/10 1/2/54 0/1/5", "0 5 50", "5 45 10", 60, "0 6 50", "0 0 1 1", "0 1"},
	{3, 0, "0/2/50 2/1/10 1/2/56 0/1/5", "0 5 50", "5 45 11", 61, "0 5 51", "1 1 0 0", "2 3"},
	{3, 0, "0/2/20 1/1/15 1/2/20", "0 0 20", "0 20 0", 20, "0 0 20", "0 5 0", "0 2"},
	{4, 1, "0/1/4 1/1/4 2/1/4 3/1/4 0/2/12 2/2/8 1/2/9 0/4/30", "0 5 13 18", "4 7 4 12", 30, "0 16 21 26", "11 11 8 8 8 9 11 0", "7"},
	{5, 2, "0/3/40 1/3/40 2/3/40", "0 2 4 42 44", "0 0 36 0 0", 44, "0 2 4 42 44", "0 0 0", "0 1 2"},
	// At both ends, with columns between without any entry.
	{10, 1, "9/1/50 0/1/20", "0 21 22 23 24 25 26 27 28 29", "20 0 0 0 0 0 0 0 0 50", 79, "0 21 22 23 24 25 26 27 28 29", "0 0", "0 1"},
	{10, 1, "0/9/50 9/1/20", "0 1 2 3 4 5 6 7 8 51", "0 0 0 0 0 0 0 0 42 20", 71, "0 43 44 45 46 47 48 49 50 51", "0 0", "0 1"},
	{10, 1, "0/1/20 1/9/50", "0 21 22 23 24 25 26 27 28 29", "20 0 0 0 0 0 0 0 0 42", 71, "0 21 64 65 66 67 68 69 70 71", "0 0", "0 1"},
	{10, 0, "0/5/50 5/5/60 0/10/100", "0 0 0 0 0 50 50 50 50 50", "0 0 0 0 50 0 0 0 0 60", 110, "0 50 50 50 50 50 110 110 110 110", "0 0 10", "0 1"},
	// Room beyond 600.
	{2, 0, "0/1/600 1/1/600 0/2/600", "0 600", "600 600", 1200, "0 600", "0 0 600", "0 1"},
	{2, 36, "0/1/600 1/1/600 0/2/0", "0 636", "600 600", 1236, "0 636", "0 0 1236", "0 1"},
	{3, 10, "0/3/600 1/1/5 0/1/600 2/1/600", "0 610 625", "600 5 600", 1225, "0 610 625", "625 0 0 0", "1 2 3"},
}

func TestTables(t *testing.T) {
	for _, c := range tableCases {
		l := readEntries(c.entries)
		if !impl.IsTable(c.n, l) {
			t.Errorf("%d columns, %s is a table", c.n, c.entries)
		}
		if starts, ok := impl.LeastStarts(c.n, l, c.gap); !slices.Equal(starts, readWidths(c.starts)) || !ok {
			t.Errorf("%d columns, gap %d, %s: starts %v %v, want %s", c.n, c.gap, c.entries, starts, ok, c.starts)
		}
		if widths, ok := impl.ColumnWidths(c.n, l, c.gap); !slices.Equal(widths, readWidths(c.widths)) || !ok {
			t.Errorf("%d columns, gap %d, %s: widths %v %v, want %s", c.n, c.gap, c.entries, widths, ok, c.widths)
		}
		if width, ok := impl.TableWidth(c.n, l, c.gap); width != c.width || !ok {
			t.Errorf("%d columns, gap %d, %s: %d wide %v, want %d", c.n, c.gap, c.entries, width, ok, c.width)
		}
		if starts, ok := impl.LatestColumns(c.n, l, c.gap, c.width); !slices.Equal(starts, readWidths(c.latest)) || !ok {
			t.Errorf("%d columns, gap %d, %s: latest starts %v %v, want %s", c.n, c.gap, c.entries, starts, ok, c.latest)
		}
		if widths, ok := impl.SpreadTable(c.n, l, c.gap, c.width); !slices.Equal(widths, readWidths(c.widths)) || !ok {
			t.Errorf("%d columns, gap %d, %s: spread %v %v, want %s", c.n, c.gap, c.entries, widths, ok, c.widths)
		}
		for i, want := range readWidths(c.rooms) {
			if room, ok := impl.RoomOfEntry(c.n, l, c.gap, i); room != want || !ok {
				t.Errorf("%d columns, gap %d, %s: room of %d %d %v, want %d", c.n, c.gap, c.entries, i, room, ok, want)
			}
		}
		if tight, ok := impl.TightEntries(c.n, l, c.gap); !slices.Equal(tight, readWidths(c.tight)) || !ok {
			t.Errorf("%d columns, gap %d, %s: tight %v %v, want %s", c.n, c.gap, c.entries, tight, ok, c.tight)
		}
	}
}

// TestWidestTables uses tables that are wider than MaxTable, so that no total width can be given for them.
func TestWidestTables(t *testing.T) {
	for n := 1; n <= 10; n++ {
		for _, gap := range []int{0, 36} {
			l := append(eachColumn(n, 600), entryOf(0, n, 600))
			want := n*600 + (n-1)*gap
			if width, ok := impl.TableWidth(n, l, gap); width != want || !ok {
				t.Errorf("%d columns, gap %d: %d wide %v, want %d", n, gap, width, ok, want)
			}
			if starts, ok := impl.LeastStarts(n, l, gap); !slices.Equal(starts, rising(n, 0, 600+gap)) || !ok {
				t.Errorf("%d columns, gap %d: starts %v %v", n, gap, starts, ok)
			}
			if widths, ok := impl.ColumnWidths(n, l, gap); !slices.Equal(widths, counts(n, 600)) || !ok {
				t.Errorf("%d columns, gap %d: widths %v %v", n, gap, widths, ok)
			}
			if room, ok := impl.RoomOfEntry(n, l, gap, n); room != want-600 || !ok {
				t.Errorf("%d columns, gap %d: room %d %v", n, gap, room, ok)
			}
			for i := range n {
				if room, ok := impl.RoomOfEntry(n, l, gap, i); room != 0 || !ok {
					t.Errorf("%d columns, gap %d: room of %d: %d %v", n, gap, i, room, ok)
				}
			}
			tight := upTo(n)
			if n == 1 {
				tight = upTo(2)
			}
			if x, ok := impl.TightEntries(n, l, gap); !slices.Equal(x, tight) || !ok {
				t.Errorf("%d columns, gap %d: tight %v %v", n, gap, x, ok)
			}
			if width, ok := impl.WidthWithout(n, l, gap, n); width != want || !ok {
				t.Errorf("%d columns, gap %d: without the last entry %d wide %v", n, gap, width, ok)
			}
			for _, total := range []int{0, want - 1, want, want + 1, 4999, 5000, 5001, 10000} {
				fits := total >= want && total <= 5000
				if starts, ok := impl.LatestColumns(n, l, gap, total); ok != fits || len(starts) != 0 != fits {
					t.Errorf("%d columns, gap %d: latest starts for %d: %v %v", n, gap, total, starts, ok)
				}
				if widths, ok := impl.SpreadTable(n, l, gap, total); ok != fits || len(widths) != 0 != fits {
					t.Errorf("%d columns, gap %d: spread to %d: %v %v", n, gap, total, widths, ok)
				}
			}
		}
	}
}

// totalCases tell the greatest starts, and the widths, for a total width; both do not exist if they are empty.
var totalCases = []struct {
	n, gap         int
	entries        string
	total          int
	latest, widths string
}{
	{2, 6, exampleTable, 70, "0 50", "30 34"},
	{2, 6, exampleTable, 69, "", ""},
	{2, 6, exampleTable, 71, "0 51", "31 34"},
	{2, 6, exampleTable, 72, "0 52", "31 35"},
	{2, 6, exampleTable, 73, "0 53", "32 35"},
	{2, 6, exampleTable, 4999, "0 4979", "2495 2498"},
	{2, 6, exampleTable, 5000, "0 4980", "2495 2499"},
	{2, 6, exampleTable, 5001, "", ""},
	{2, 6, exampleTable, 0, "", ""},
	{2, 6, exampleTable, 1, "", ""},
	{2, 6, exampleTable, -1, "", ""},
	{2, 6, exampleTable, -70, "", ""},
	// No entry.
	{1, 0, "", 0, "0", "0"},
	{1, 0, "", -1, "", ""},
	{1, 36, "", 0, "0", "0"},
	{1, 36, "", 1, "0", "1"},
	{1, 36, "", 5000, "0", "5000"},
	{1, 36, "", 5001, "", ""},
	{2, 0, "", 0, "0 0", "0 0"},
	{2, 0, "", 1, "0 1", "1 0"},
	{2, 36, "", 35, "", ""},
	{2, 36, "", 36, "0 36", "0 0"},
	{2, 36, "", 37, "0 37", "1 0"},
	{3, 5, "", 9, "", ""},
	{3, 5, "", 10, "0 5 10", "0 0 0"},
	{3, 5, "", 11, "0 6 11", "1 0 0"},
	{3, 5, "", 12, "0 7 12", "1 1 0"},
	{3, 5, "", 13, "0 8 13", "1 1 1"},
	{3, 5, "", 14, "0 9 14", "2 1 1"},
	{3, 5, "", 5000, "0 4995 5000", "1664 1663 1663"},
	{10, 36, "", 323, "", ""},
	{10, 36, "", 324, "0 36 72 108 144 180 216 252 288 324", "0 0 0 0 0 0 0 0 0 0"},
	{10, 36, "", 325, "0 37 73 109 145 181 217 253 289 325", "1 0 0 0 0 0 0 0 0 0"},
	{10, 36, "", 333, "0 45 81 117 153 189 225 261 297 333", "1 1 1 1 1 1 1 1 1 0"},
	{10, 36, "", 334, "0 46 82 118 154 190 226 262 298 334", "1 1 1 1 1 1 1 1 1 1"},
	{10, 36, "", 335, "0 47 83 119 155 191 227 263 299 335", "2 1 1 1 1 1 1 1 1 1"},
	{10, 0, "", 9, "0 9 9 9 9 9 9 9 9 9", "1 1 1 1 1 1 1 1 1 0"},
	// The first column starts at 0 also if it could start later.
	{1, 6, "0/1/30", 30, "0", "30"},
	{1, 6, "0/1/30", 29, "", ""},
	{1, 6, "0/1/30", 100, "0", "100"},
	{2, 6, "0/1/30 1/1/20", 56, "0 36", "30 20"},
	{2, 6, "0/1/30 1/1/20", 55, "", ""},
	{2, 6, "0/1/30 1/1/20", 60, "0 40", "32 22"},
	{2, 6, "0/1/30 1/1/20", 61, "0 41", "33 22"},
	{2, 6, "0/2/40", 40, "0 40", "0 34"},
	{2, 6, "0/2/40", 43, "0 43", "2 35"},
	{2, 6, "1/1/40", 50, "0 10", "2 42"},
	// Over several columns.
	{3, 5, "0/1/10 1/1/20 2/1/30 0/3/100", 100, "0 45 70", "10 20 60"},
	{3, 5, "0/1/10 1/1/20 2/1/30 0/3/100", 110, "0 55 80", "14 23 63"},
	{3, 2, "0/2/20 1/2/30", 31, "", ""},
	{3, 2, "0/2/20 1/2/30", 32, "0 2 32", "0 18 10"},
	{3, 2, "0/2/20 1/2/30", 33, "0 3 33", "1 18 10"},
	{3, 2, "0/2/20 1/2/30", 34, "0 4 34", "1 19 10"},
	{4, 1, "0/1/4 1/1/4 2/1/4 3/1/4 0/2/12 2/2/8 1/2/9 0/4/30", 33, "0 19 24 29", "5 8 5 12"},
	{4, 3, "0/1/10 3/1/5 1/2/40", 60, "", ""},
	{4, 3, "0/1/10 3/1/5 1/2/40", 68, "0 20 60 63", "12 2 39 6"},
	// As wide as MaxTable, and wider.
	{10, 0, "0/1/500 1/1/500 2/1/500 3/1/500 4/1/500 5/1/500 6/1/500 7/1/500 8/1/500 9/1/500", 5000, "0 500 1000 1500 2000 2500 3000 3500 4000 4500", "500 500 500 500 500 500 500 500 500 500"},
	{10, 0, "0/1/500 1/1/500 2/1/500 3/1/500 4/1/500 5/1/500 6/1/500 7/1/500 8/1/500 9/1/500", 4999, "", ""},
	{10, 0, "0/1/500 1/1/500 2/1/500 3/1/500 4/1/500 5/1/500 6/1/500 7/1/500 8/1/500 9/1/500", 5001, "", ""},
	{10, 0, "0/1/500 1/1/500 2/1/500 3/1/500 4/1/500 5/1/500 6/1/500 7/1/500 8/1/500 9/1/501", 5000, "", ""},
	{10, 0, "0/1/500 1/1/500 2/1/500 3/1/500 4/1/500 5/1/500 6/1/500 7/1/500 8/1/500 9/1/501", 5001, "", ""},
}

func TestTotals(t *testing.T) {
	for _, c := range totalCases {
		l := readEntries(c.entries)
		if starts, ok := impl.LatestColumns(c.n, l, c.gap, c.total); !slices.Equal(starts, readWidths(c.latest)) || ok != (c.latest != "") {
			t.Errorf("%d columns, gap %d, %s: latest starts for %d: %v %v, want %s", c.n, c.gap, c.entries, c.total, starts, ok, c.latest)
		}
		if widths, ok := impl.SpreadTable(c.n, l, c.gap, c.total); !slices.Equal(widths, readWidths(c.widths)) || ok != (c.widths != "") {
			t.Errorf("%d columns, gap %d, %s: spread to %d: %v %v, want %s", c.n, c.gap, c.entries, c.total, widths, ok, c.widths)
		}
	}
	for total := -10; total <= 5010; total++ {
		_, one := impl.LatestColumns(2, readEntries(exampleTable), 6, total)
		_, two := impl.SpreadTable(2, readEntries(exampleTable), 6, total)
		if fits := total >= 70 && total <= 5000; one != fits || two != fits {
			t.Error("total", total, one, two)
		}
	}
}

func TestGaps(t *testing.T) {
	for gap := -50; gap <= 50; gap++ {
		valid := gap >= 0 && gap <= 36
		for n := 1; n <= 10; n++ {
			want := (n - 1) * gap
			if !valid {
				want = 0
			}
			if width, ok := impl.TableWidth(n, nil, gap); width != want || ok != valid {
				t.Errorf("%d columns, gap %d: %d %v", n, gap, width, ok)
			}
		}
		l := readEntries(exampleTable)
		_, a := impl.LeastStarts(2, l, gap)
		_, b := impl.ColumnWidths(2, l, gap)
		_, c := impl.LatestColumns(2, l, gap, 1000)
		_, d := impl.RoomOfEntry(2, l, gap, 0)
		_, e := impl.TightEntries(2, l, gap)
		_, f := impl.SpreadTable(2, l, gap, 1000)
		_, g := impl.WidthWithout(2, l, gap, 0)
		if done := []bool{a, b, c, d, e, f, g}; slices.Contains(done, !valid) {
			t.Error("gap", gap, done)
		}
	}
}

func TestAddEntry(t *testing.T) {
	cases := []struct {
		n                int
		entries, x, want string
	}{
		{1, "", "0/1/0", "0/1/0"},
		{1, "", "0/1/600", "0/1/600"},
		{1, "", "0/1/601", ""},
		{1, "", "0/1/-1", ""},
		{1, "", "0/2/10", ""},
		{1, "", "1/1/10", ""},
		{1, "", "0/0/10", ""},
		{10, "", "0/10/10", "0/10/10"},
		{10, "", "9/1/10", "9/1/10"},
		{10, "", "9/2/10", ""},
		{10, "", "10/1/10", ""},
		{10, "", "0/11/10", ""},
		{10, "", "1/10/10", ""},
		{10, "", "-1/2/10", ""},
		{0, "", "0/1/10", ""},
		{11, "", "0/1/10", ""},
		{-1, "", "0/1/10", ""},
		{2, "0/1/30 1/1/20", "0/2/70", exampleTable},
		{2, exampleTable, "0/1/10", exampleTable + " 0/1/10"},
		{2, exampleTable, "0/2/70", exampleTable + " 0/2/70"}, // the same entry twice
		{2, exampleTable, "0/1/30", exampleTable + " 0/1/30"},
		{2, exampleTable, "2/1/30", ""},
		{2, exampleTable, "1/2/30", ""},
		{3, exampleTable, "1/2/30", exampleTable + " 1/2/30"},
		{1, exampleTable, "0/1/30", ""}, // no table already
		{2, "0/1/30 0/3/10", "0/1/30", ""},
		{2, "0/1/30 0/1/601", "0/1/30", ""},
	}
	for _, c := range cases {
		if l, ok := impl.AddEntry(c.n, readEntries(c.entries), readEntries(c.x)[0]); !slices.Equal(l, readEntries(c.want)) || ok != (c.want != "") {
			t.Errorf("%d columns, %s and %s: %v %v, want %s", c.n, c.entries, c.x, l, ok, c.want)
		}
	}
	for n := range 30 {
		l, x := slices.Repeat(readEntries("1/1/10"), n), entryOf(0, 2, 20)
		more, ok := impl.AddEntry(2, l, x)
		if ok != (n < 20) || ok && !slices.Equal(more, append(slices.Clone(l), x)) || !ok && more != nil {
			t.Error("one more than", n, more, ok)
		}
	}
}

func TestWidthWithout(t *testing.T) {
	cases := []struct {
		n, gap  int
		entries string
		i, want int // -1 if there is none
	}{
		{2, 6, exampleTable, 0, 70},
		{2, 6, exampleTable, 1, 70},
		{2, 6, exampleTable, 2, 56},
		{2, 6, exampleTable, 3, -1},
		{2, 6, exampleTable, 4, -1},
		{2, 6, exampleTable, -1, -1},
		{2, 6, exampleTable, 20, -1},
		{2, 6, exampleTable, math.MaxInt, -1},
		{2, 6, exampleTable, math.MinInt, -1},
		{2, 6, "", 0, -1},
		{2, 6, "", -1, -1},
		{1, 0, "0/1/0", 0, 0},
		{1, 0, "0/1/600", 0, 0},
		{1, 0, "0/1/600", 1, -1},
		{2, 36, "0/1/600", 0, 36},
		{10, 36, "3/4/600", 0, 324},
		{1, 6, "0/1/30 0/1/20", 0, 20},
		{1, 6, "0/1/30 0/1/20", 1, 30},
		{1, 6, "0/1/30 0/1/30", 0, 30}, // the same entry twice
		{1, 6, "0/1/30 0/1/30", 1, 30},
		{2, 6, "0/1/30 1/1/20 0/2/56", 2, 56},
		{2, 6, "0/1/30 1/1/20 0/2/56", 0, 56},
		{3, 2, "0/2/20 1/2/30", 0, 32},
		{3, 2, "0/2/20 1/2/30", 1, 22},
		{3, 5, "0/1/10 1/1/20 2/1/30 0/3/60", 0, 60},
		{3, 5, "0/1/10 1/1/20 2/1/30 0/3/60", 1, 60},
		{3, 5, "0/1/10 1/1/20 2/1/30 0/3/45", 1, 50},
		{3, 5, "0/1/10 1/1/20 2/1/30 0/3/60", 3, 70},
	}
	for _, c := range cases {
		if width, ok := impl.WidthWithout(c.n, readEntries(c.entries), c.gap, c.i); width != max(c.want, 0) || ok != (c.want >= 0) {
			t.Errorf("%d columns, gap %d, %s without %d: %d %v, want %d", c.n, c.gap, c.entries, c.i, width, ok, c.want)
		}
	}
	full := append(slices.Repeat(readEntries("0/1/10"), 19), entryOf(1, 1, 50))
	for i := range 20 {
		want := 62
		if i == 19 {
			want = 12
		}
		if width, ok := impl.WidthWithout(2, full, 2, i); width != want || !ok {
			t.Errorf("20 entries without %d: %d %v, want %d", i, width, ok, want)
		}
	}
}

func TestEntriesOver(t *testing.T) {
	cases := []struct {
		n       int
		entries string
		over    string // for each column, separated by strokes
	}{
		{1, "", ""},
		{2, "", "/"},
		{10, "", "/////////"},
		{1, "0/1/0", "0"},
		{2, "0/1/30", "0/"}, // a column with no entry
		{2, "1/1/30", "/0"},
		{3, "1/1/30", "/0/"},
		{3, "0/1/30 2/1/30", "0//1"},
		{2, exampleTable, "0 2/1 2"},
		{3, exampleTable, "0 2/1 2/"},
		{3, "0/3/0 0/2/0 1/2/0 1/1/0", "0 1/0 1 2 3/0 2"},
		{4, "1/2/600 0/4/5 3/1/2 0/1/7", "1 3/0 1/0 1/1 2"},
		{1, "0/1/5 0/1/5 0/1/5", "0 1 2"}, // the same entry several times
		{10, "0/10/5", "0/0/0/0/0/0/0/0/0/0"},
		{10, "9/1/5 0/9/5 0/1/5", "1 2/1/1/1/1/1/1/1/1/0"},
		{10, "2/3/5 4/4/5", "//0/0/0 1/1/1/1//"},
	}
	for _, c := range cases {
		l, over := readEntries(c.entries), strings.Split(c.over, "/")
		for column := -3; column <= 13; column++ {
			inside := column >= 0 && column < c.n
			var want []int
			if inside {
				want = readWidths(over[column])
			}
			if x, ok := impl.EntriesOver(c.n, l, column); !slices.Equal(x, want) || ok != inside || !ok && x != nil {
				t.Errorf("%d columns, %s: over %d: %v %v, want %v %v", c.n, c.entries, column, x, ok, want, inside)
			}
		}
		for _, column := range farNumbers {
			if x, ok := impl.EntriesOver(c.n, l, column); x != nil || ok {
				t.Errorf("%d columns, %s: over %d: %v %v", c.n, c.entries, column, x, ok)
			}
		}
	}
	// All places of one entry.
	for n := 1; n <= 10; n++ {
		for from := range n {
			for to := from + 1; to <= n; to++ {
				for column := range n {
					x, ok := impl.EntriesOver(n, []impl.Entry{entryOf(from, to-from, 9)}, column)
					if len(x) == 1 != (from <= column && column < to) || !ok {
						t.Errorf("%d columns: from %d to %d over %d: %v %v", n, from, to, column, x, ok)
					}
				}
			}
		}
	}
}

// startsOf returns the starts of columns with widths, and the total width.
func startsOf(widths []int, gap int) ([]int, int) {
	var starts []int
	at := 0
	for _, width := range widths {
		starts = append(starts, at)
		at += width + gap
	}
	return starts, at - gap
}

// haveRoomFor reports whether widths of columns are at least 0 and enough for all entries.
func haveRoomFor(l []impl.Entry, gap int, widths []int) bool {
	for _, width := range widths {
		if width < 0 {
			return false
		}
	}
	for _, x := range l {
		if sumOfCounts(widths[x.Column:x.Column+x.Span])+(x.Span-1)*gap < x.Wide {
			return false
		}
	}
	return true
}

// allWidths calls a function with all widths of n columns that are together at most so many units.
func allWidths(n, most int, use func(widths []int)) {
	widths := make([]int, n)
	var fill func(column, left int)
	fill = func(column, left int) {
		if column == n {
			use(widths)
			return
		}
		for widths[column] = 0; widths[column] <= left; widths[column]++ {
			fill(column+1, left-widths[column])
		}
	}
	fill(0, most)
}

// tableByAllWidths tries all widths that are together at most so many units.
type tableByAllWidths struct {
	least, latest []int
	width         int
}

// tryAllWidths finds the least starts and the least total width, and the greatest starts with a total width.
func tryAllWidths(n int, l []impl.Entry, gap, total int) tableByAllWidths {
	b := tableByAllWidths{width: math.MaxInt}
	allWidths(n, max(total-(n-1)*gap, 0), func(widths []int) {
		if !haveRoomFor(l, gap, widths) {
			return
		}
		starts, width := startsOf(widths, gap)
		if b.least == nil {
			b.least = slices.Clone(starts)
		}
		b.width = min(b.width, width)
		for column, start := range starts {
			b.least[column] = min(b.least[column], start)
		}
		if width != total {
			return
		}
		if b.latest == nil {
			b.latest = slices.Clone(starts)
		}
		for column, start := range starts {
			b.latest[column] = max(b.latest[column], start)
		}
	})
	return b
}

// checkSmallTable checks a table against all widths, and the greatest starts with the least total width, one unit more and two.
func checkSmallTable(t *testing.T, n int, l []impl.Entry, gap int) {
	t.Helper()
	width, ok := impl.TableWidth(n, l, gap)
	if !ok {
		t.Fatalf("%d columns, gap %d, %v: no width", n, gap, l)
	}
	for total := width; total < width+3; total++ {
		b := tryAllWidths(n, l, gap, total)
		starts, one := impl.LeastStarts(n, l, gap)
		latest, two := impl.LatestColumns(n, l, gap, total)
		if b.width != width || !slices.Equal(starts, b.least) || !slices.Equal(latest, b.latest) || !one || !two {
			t.Fatalf("%d columns, gap %d, %v, total %d: %d wide, starts %v, latest %v, but by all widths %v", n, gap, l, total, width, starts, latest, b)
		}
	}
	for i := range l {
		room, ok := impl.RoomOfEntry(n, l, gap, i)
		wider := slices.Clone(l)
		wider[i].Wide += room
		enough := tryAllWidths(n, wider, gap, width).width
		wider[i].Wide++
		more := tryAllWidths(n, wider, gap, width+1).width
		if !ok || enough != width || more != width+1 {
			t.Fatalf("%d columns, gap %d, %v: room of %d %d %v, but %d and %d wide with it and one more", n, gap, l, i, room, ok, enough, more)
		}
	}
}

// smallEntries returns all entries of tables with n columns that are at most so wide.
func smallEntries(n, most int) []impl.Entry {
	var l []impl.Entry
	for column := range n {
		for span := 1; span <= n-column; span++ {
			for wide := range most + 1 {
				l = append(l, entryOf(column, span, wide))
			}
		}
	}
	return l
}

// TestAllSmallTables uses all tables of at most two narrow entries, and many with three.
func TestAllSmallTables(t *testing.T) {
	for n := 1; n <= 3; n++ {
		all := smallEntries(n, 3)
		for gap := range 3 {
			checkSmallTable(t, n, nil, gap)
			for i, x := range all {
				checkSmallTable(t, n, []impl.Entry{x}, gap)
				for k, y := range all {
					checkSmallTable(t, n, []impl.Entry{x, y}, gap)
					checkSmallTable(t, n, []impl.Entry{x, y, all[(i*7+k*5)%len(all)]}, gap)
				}
			}
		}
	}
}

// TestRandomSmallTables uses tables with more columns and entries than TestAllSmallTables.
func TestRandomSmallTables(t *testing.T) {
	r := rand.New(rand.NewSource(80))
	for range 1500 {
		n := 1 + r.Intn(4)
		all := smallEntries(n, 6)
		l := make([]impl.Entry, r.Intn(8))
		for i := range l {
			l[i] = all[r.Intn(len(all))]
		}
		checkSmallTable(t, n, l, r.Intn(3))
	}
}

// relaxedEnds returns the least ends of the columns, raised as long as a column or an entry is not satisfied.
func relaxedEnds(n int, l []impl.Entry, gap int) []int {
	ends := make([]int, n)
	startAt := func(column int) int {
		if column == 0 {
			return 0
		}
		return ends[column-1] + gap
	}
	for changed := true; changed; {
		changed = false
		raise := func(column, least int) {
			if ends[column] < least {
				ends[column], changed = least, true
			}
		}
		for column := n - 1; column >= 0; column-- {
			raise(column, startAt(column))
		}
		for _, x := range l {
			raise(x.Column+x.Span-1, startAt(x.Column)+x.Wide)
		}
	}
	return ends
}

// relaxedStarts returns the greatest starts with a total width, lowered from this one as long as a column or an entry is not satisfied.
func relaxedStarts(n int, l []impl.Entry, gap, total int) []int {
	starts := counts(n, total)
	endAt := func(column int) int {
		if column == n-1 {
			return total
		}
		return starts[column+1] - gap
	}
	for changed := true; changed; {
		changed = false
		lower := func(column, most int) {
			if starts[column] > most {
				starts[column], changed = most, true
			}
		}
		for column := range n {
			lower(column, endAt(column))
		}
		for _, x := range l {
			lower(x.Column, endAt(x.Column+x.Span-1)-x.Wide)
		}
	}
	starts[0] = 0
	return starts
}

// checkRooms checks that no entry could be wider by more than its room, and which ones are tight; it returns how many are.
func checkRooms(t *testing.T, n int, l []impl.Entry, gap, width int) int {
	t.Helper()
	var tight []int
	for i := range l {
		room, ok := impl.RoomOfEntry(n, l, gap, i)
		wider := slices.Clone(l)
		wider[i].Wide += room
		if ends := relaxedEnds(n, wider, gap); ends[n-1] != width || room < 0 || !ok {
			t.Fatalf("%d columns, gap %d, %v: room of %d %d %v, but then %d wide", n, gap, l, i, room, ok, ends[n-1])
		}
		wider[i].Wide++
		if ends := relaxedEnds(n, wider, gap); ends[n-1] != width+1 {
			t.Fatalf("%d columns, gap %d, %v: room of %d %d, but with one more %d wide", n, gap, l, i, room, ends[n-1])
		}
		if room == 0 {
			tight = append(tight, i)
		}
		without := relaxedEnds(n, slices.Delete(slices.Clone(l), i, i+1), gap)[n-1]
		if x, ok := impl.WidthWithout(n, l, gap, i); x != without || !ok {
			t.Fatalf("%d columns, gap %d, %v: without %d: %d %v, want %d", n, gap, l, i, x, ok, without)
		}
	}
	if x, ok := impl.TightEntries(n, l, gap); !slices.Equal(x, tight) || !ok {
		t.Fatalf("%d columns, gap %d, %v: tight %v %v, want %v", n, gap, l, x, ok, tight)
	}
	return len(tight)
}

// checkTotal checks the greatest starts and the spread widths for a total width that a table may have.
func checkTotal(t *testing.T, n int, l []impl.Entry, gap, width, total int) {
	t.Helper()
	latest, ok := impl.LatestColumns(n, l, gap, total)
	if !slices.Equal(latest, relaxedStarts(n, l, gap, total)) || !ok {
		t.Fatalf("%d columns, gap %d, %v: latest starts for %d: %v %v", n, gap, l, total, latest, ok)
	}
	var late []int
	for column, start := range latest {
		end := total
		if column < n-1 {
			end = latest[column+1] - gap
		}
		late = append(late, end-start)
	}
	if _, sum := startsOf(late, gap); !haveRoomFor(l, gap, late) || sum != total {
		t.Fatalf("%d columns, gap %d, %v: widths %v with the latest starts for %d", n, gap, l, late, total)
	}
	widths, _ := impl.ColumnWidths(n, l, gap)
	spread, ok := impl.SpreadTable(n, l, gap, total)
	if _, sum := startsOf(spread, gap); !haveRoomFor(l, gap, spread) || sum != total || len(spread) != n || !ok {
		t.Fatalf("%d columns, gap %d, %v: spread to %d: %v %v", n, gap, l, total, spread, ok)
	}
	for column := range spread {
		more := (total - width) / n
		if column < (total-width)%n {
			more++
		}
		if spread[column] != widths[column]+more {
			t.Fatalf("%d columns, gap %d, %v: spread to %d: %v, but %d more for %d than %v", n, gap, l, total, spread, more, column, widths)
		}
	}
}

// checkTable checks all that is told about a table against starts and ends that are found by relaxing; it returns how many entries are tight.
func checkTable(t *testing.T, n int, l []impl.Entry, gap int) int {
	t.Helper()
	ends := relaxedEnds(n, l, gap)
	width, one := impl.TableWidth(n, l, gap)
	widths, two := impl.ColumnWidths(n, l, gap)
	starts, three := impl.LeastStarts(n, l, gap)
	sums, sum := startsOf(widths, gap)
	if width != ends[n-1] || sum != width || !haveRoomFor(l, gap, widths) || len(widths) != n || !slices.Equal(starts, sums) || !one || !two || !three {
		t.Fatalf("%d columns, gap %d, %v: %d wide %v, widths %v %v, starts %v %v", n, gap, l, width, one, widths, two, starts, three)
	}
	for column, start := range starts {
		if start+widths[column] != ends[column] {
			t.Fatalf("%d columns, gap %d, %v: starts %v, widths %v, but ends %v", n, gap, l, starts, widths, ends)
		}
	}
	for _, total := range []int{width, width + 1, width + n, width + 100, (width + 5000) / 2, 5000} {
		if total >= width && total <= 5000 {
			checkTotal(t, n, l, gap, width, total)
		}
	}
	for _, total := range []int{width - 1, width - 100, 0, 5001} {
		if total < width || total > 5000 {
			refuseTotal(t, n, l, gap, total)
		}
	}
	return checkRooms(t, n, l, gap, width)
}

func refuseTotal(t *testing.T, n int, l []impl.Entry, gap, total int) {
	t.Helper()
	if x, ok := impl.LatestColumns(n, l, gap, total); x != nil || ok {
		t.Errorf("%d columns, gap %d, %.100v: LatestColumns %d: %v %v", n, gap, l, total, x, ok)
	}
	if x, ok := impl.SpreadTable(n, l, gap, total); x != nil || ok {
		t.Errorf("%d columns, gap %d, %.100v: SpreadTable %d: %v %v", n, gap, l, total, x, ok)
	}
}

func randomEntry(r *rand.Rand, n, most int) impl.Entry {
	column := r.Intn(n)
	return entryOf(column, 1+r.Intn(n-column), r.Intn(most+1))
}

// randomTable has a gap, entries that are all narrow or all wider, and sometimes an entry twice.
func randomTable(r *rand.Rand) (int, []impl.Entry, int) {
	n, gap, most := 1+r.Intn(10), r.Intn(37), []int{5, 30, 100, 300, 600}[r.Intn(5)]
	if r.Intn(2) == 0 {
		gap = r.Intn(4)
	}
	l := make([]impl.Entry, r.Intn(21))
	for i := range l {
		l[i] = randomEntry(r, n, most)
		if i > 0 && r.Intn(10) == 0 {
			l[i] = l[r.Intn(i)]
		}
	}
	return n, l, gap
}

func TestRandomTables(t *testing.T) {
	r := rand.New(rand.NewSource(81))
	tight, loose, byGaps := 0, 0, 0
	for range 4000 {
		n, l, gap := randomTable(r)
		number := checkTable(t, n, l, gap)
		tight += number
		loose += len(l) - number
		if number == 0 && len(l) > 0 {
			byGaps++
		}
	}
	if tight < 4000 || loose < 10000 || byGaps < 50 {
		t.Error("too few entries:", tight, loose, byGaps)
	}
}

// TestValidTables uses valid tables of all numbers of columns.
func TestValidTables(t *testing.T) {
	for n := 1; n <= 10; n++ {
		for _, l := range validTables(n) {
			for _, gap := range []int{0, 1, 6, 35, 36} {
				checkTable(t, n, l, gap)
			}
		}
	}
}

// TestEntryOrders checks that the order of the entries changes nothing but their indices.
func TestEntryOrders(t *testing.T) {
	r := rand.New(rand.NewSource(82))
	for range 1000 {
		n, l, gap := randomTable(r)
		order := r.Perm(len(l))
		other := make([]impl.Entry, len(l))
		for i, k := range order {
			other[i] = l[k]
		}
		starts, _ := impl.LeastStarts(n, l, gap)
		widths, _ := impl.ColumnWidths(n, l, gap)
		if x, ok := impl.LeastStarts(n, other, gap); !slices.Equal(x, starts) || !ok {
			t.Fatalf("%d columns, gap %d, %v: starts %v, in another order %v", n, gap, l, starts, x)
		}
		if x, ok := impl.ColumnWidths(n, other, gap); !slices.Equal(x, widths) || !ok {
			t.Fatalf("%d columns, gap %d, %v: widths %v, in another order %v", n, gap, l, widths, x)
		}
		for i, k := range order {
			one, _ := impl.RoomOfEntry(n, l, gap, k)
			two, _ := impl.RoomOfEntry(n, other, gap, i)
			if one != two {
				t.Fatalf("%d columns, gap %d, %v: room of %d %d, in another order %d", n, gap, l, k, one, two)
			}
		}
	}
}

// TestMirroredTables checks that the greatest starts are the least ones from the other end.
func TestMirroredTables(t *testing.T) {
	r := rand.New(rand.NewSource(83))
	for range 1000 {
		n, l, gap := randomTable(r)
		other := slices.Clone(l)
		for i, x := range l {
			other[i].Column = n - x.Column - x.Span
		}
		width, _ := impl.TableWidth(n, l, gap)
		starts, _ := impl.LeastStarts(n, other, gap)
		widths, _ := impl.ColumnWidths(n, other, gap)
		if x, ok := impl.TableWidth(n, other, gap); x != width || !ok {
			t.Fatalf("%d columns, gap %d, %v: %d wide, mirrored %d", n, gap, l, width, x)
		}
		if width > 5000 {
			continue
		}
		latest, ok := impl.LatestColumns(n, l, gap, width)
		for column := 1; column < n; column++ {
			if k := n - 1 - column; latest[column] != width-starts[k]-widths[k] || !ok {
				t.Fatalf("%d columns, gap %d, %v: latest starts %v, mirrored %v and widths %v", n, gap, l, latest, starts, widths)
			}
		}
	}
}

// TestRandomEntries adds entries one after the other, and takes each one of them away again.
func TestRandomEntries(t *testing.T) {
	r := rand.New(rand.NewSource(84))
	refused := 0
	for range 300 {
		n, gap := 1+r.Intn(10), r.Intn(37)
		var l []impl.Entry
		for len(l) < 20 {
			x := randomEntry(r, n, 600)
			if r.Intn(4) == 0 {
				x = invalidEntries(n)[r.Intn(len(invalidEntries(n)))]
			}
			more, ok := impl.AddEntry(n, l, x)
			if ok != impl.IsTable(n, []impl.Entry{x}) || !ok && more != nil {
				t.Fatalf("%d columns, %v and %v: %v %v", n, l, x, more, ok)
			}
			if !ok {
				refused++
				continue
			}
			if len(more) != len(l)+1 || !slices.Equal(more[:len(l)], l) || more[len(l)] != x {
				t.Fatalf("%d columns, %v and %v: %v", n, l, x, more)
			}
			before, one := impl.TableWidth(n, l, gap)
			after, two := impl.WidthWithout(n, more, gap, len(l))
			if before != after || !one || !two {
				t.Fatalf("%d columns, gap %d, %v: %d wide %v, and %d %v without %v again", n, gap, l, before, one, after, two, x)
			}
			l = more
		}
		for column := range n {
			over, ok := impl.EntriesOver(n, l, column)
			k := 0
			for i, x := range l {
				if column < x.Column || column > x.Column+x.Span-1 {
					continue
				}
				if !ok || k >= len(over) || over[k] != i {
					t.Fatalf("%d columns, %v: over %d: %v %v", n, l, column, over, ok)
				}
				k++
			}
			if k != len(over) {
				t.Fatalf("%d columns, %v: over %d: %v", n, l, column, over)
			}
		}
	}
	if refused < 1000 {
		t.Error("too few entries:", refused)
	}
}

// refuseGapped checks that the functions with a gap refuse a table or a gap.
func refuseGapped(t *testing.T, n int, l []impl.Entry, gap int) {
	t.Helper()
	if x, ok := impl.LeastStarts(n, l, gap); x != nil || ok {
		t.Errorf("%d columns, gap %d, %.100v: LeastStarts %v %v", n, gap, l, x, ok)
	}
	if x, ok := impl.TableWidth(n, l, gap); x != 0 || ok {
		t.Errorf("%d columns, gap %d, %.100v: TableWidth %v %v", n, gap, l, x, ok)
	}
	if x, ok := impl.ColumnWidths(n, l, gap); x != nil || ok {
		t.Errorf("%d columns, gap %d, %.100v: ColumnWidths %v %v", n, gap, l, x, ok)
	}
	if x, ok := impl.TightEntries(n, l, gap); x != nil || ok {
		t.Errorf("%d columns, gap %d, %.100v: TightEntries %v %v", n, gap, l, x, ok)
	}
	for _, total := range []int{0, 70, 1000, 5000, -1, 5001, math.MinInt, math.MaxInt} {
		refuseTotal(t, n, l, gap, total)
	}
	for _, i := range []int{-1, 0, 1, 19, 20, 21, math.MinInt, math.MaxInt} {
		refuseIndex(t, n, l, gap, i)
	}
}

func refuseIndex(t *testing.T, n int, l []impl.Entry, gap, i int) {
	t.Helper()
	if x, ok := impl.RoomOfEntry(n, l, gap, i); x != 0 || ok {
		t.Errorf("%d columns, gap %d, %.100v: RoomOfEntry %d: %v %v", n, gap, l, i, x, ok)
	}
	if x, ok := impl.WidthWithout(n, l, gap, i); x != 0 || ok {
		t.Errorf("%d columns, gap %d, %.100v: WidthWithout %d: %v %v", n, gap, l, i, x, ok)
	}
}

// refuseTable checks that all functions refuse a table.
func refuseTable(t *testing.T, n int, l []impl.Entry) {
	t.Helper()
	if impl.IsTable(n, l) {
		t.Errorf("%d columns, %.100v is no table", n, l)
	}
	for _, gap := range []int{0, 6, 36, -1, 37, math.MaxInt} {
		refuseGapped(t, n, l, gap)
	}
	for _, x := range []impl.Entry{{}, entryOf(0, 1, 10), entryOf(0, 1, 0), entryOf(9, 1, 600)} {
		refuseAdded(t, n, l, x)
	}
	for _, column := range []int{-1, 0, 1, 9, 10, 11, math.MinInt, math.MaxInt} {
		if x, ok := impl.EntriesOver(n, l, column); x != nil || ok {
			t.Errorf("%d columns, %.100v: EntriesOver %d: %v %v", n, l, column, x, ok)
		}
	}
}

func refuseAdded(t *testing.T, n int, l []impl.Entry, x impl.Entry) {
	t.Helper()
	if more, ok := impl.AddEntry(n, l, x); more != nil || ok {
		t.Errorf("%d columns, %.100v: AddEntry %v: %v %v", n, l, x, more, ok)
	}
}

func TestInvalidTables(t *testing.T) {
	for n := 1; n <= 10; n++ {
		for _, l := range invalidTables(n) {
			refuseTable(t, n, l)
		}
	}
	for _, n := range invalidColumns {
		refuseTable(t, n, nil)
		for k := 1; k <= 10; k++ {
			for _, l := range validTables(k) {
				refuseTable(t, n, l)
			}
		}
		refuseTable(t, n, readEntries("0/11/30"))
		refuseTable(t, n, make([]impl.Entry, 1))
		refuseTable(t, n, make([]impl.Entry, 21))
	}
}

func TestInvalidGapsTotalsAndIndices(t *testing.T) {
	for n := 1; n <= 10; n++ {
		for _, l := range validTables(n) {
			for _, gap := range invalidGaps {
				refuseGapped(t, n, l, gap)
			}
			for _, gap := range []int{0, 6, 36} {
				for _, total := range invalidTotals {
					refuseTotal(t, n, l, gap, total)
				}
				for _, i := range append([]int{-1, -2, len(l), len(l) + 1, 20, 21}, farNumbers...) {
					refuseIndex(t, n, l, gap, i)
				}
			}
			for _, x := range invalidEntries(n) {
				refuseAdded(t, n, l, x)
			}
		}
	}
}

// tableResults are the results of all functions on tables, each with its success.
type tableResults struct {
	isTable bool
	numbers [3]int
	done    [10]bool
	lists   [6][]int
	more    []impl.Entry
}

func tableResultsOf(n int, l []impl.Entry, gap, total, i int, x impl.Entry) (s tableResults) {
	s.isTable = impl.IsTable(n, l)
	s.lists[0], s.done[0] = impl.LeastStarts(n, l, gap)
	s.numbers[0], s.done[1] = impl.TableWidth(n, l, gap)
	s.lists[1], s.done[2] = impl.ColumnWidths(n, l, gap)
	s.lists[2], s.done[3] = impl.LatestColumns(n, l, gap, total)
	s.numbers[1], s.done[4] = impl.RoomOfEntry(n, l, gap, i)
	s.lists[3], s.done[5] = impl.TightEntries(n, l, gap)
	s.lists[4], s.done[6] = impl.SpreadTable(n, l, gap, total)
	s.more, s.done[7] = impl.AddEntry(n, l, x)
	s.numbers[2], s.done[8] = impl.WidthWithout(n, l, gap, i)
	s.lists[5], s.done[9] = impl.EntriesOver(n, l, i)
	return s
}

// sameTableResults compares results; their lists are overwritten.
func sameTableResults(a, b tableResults) bool {
	same := equalLists(a.lists[:], b.lists[:]) && slices.Equal(a.more, b.more)
	for _, s := range []tableResults{a, b} {
		for _, l := range s.lists {
			overwrite(l, true)
		}
		overwrite(s.more, true)
	}
	return same && a.isTable == b.isTable && a.numbers == b.numbers && a.done == b.done
}

// TestTablesStay calls the functions with entries that have spare capacity, of which they must neither take nor change anything, and overwrites the results.
func TestTablesStay(t *testing.T) {
	for n := range 12 {
		for k, given := range slices.Concat(validTables(max(n, 1)), invalidTables(max(n, 1))) {
			for m, gap := range []int{0, 6, 36, 37} {
				total, x := []int{70, 1000, 5000, 5001, 0}[(k+m)%5], []impl.Entry{entryOf(0, 1, 40), entryOf(0, n, 40), {}}[(k+n)%3]
				// What is behind the entries would make the table wider.
				l, entriesStay := guarded(t, "entries", given, entryOf(0, 1, 599))
				plain := tableResultsOf(n, slices.Clip(slices.Clone(given)), gap, total, m-1, x)
				s := tableResultsOf(n, l, gap, total, m-1, x)
				if shareAny(s.lists[:]) || shareMemory(s.more, l) {
					t.Errorf("%d columns, gap %d, %.100v: results share memory", n, gap, given)
				}
				if !sameTableResults(s, plain) {
					t.Errorf("%d columns, gap %d, %.100v: %v, without spare capacity %v", n, gap, given, s, plain)
				}
				entriesStay()
			}
		}
	}
}

// TestTableResultsAreNew checks that the same call gives the same result when an earlier one has been overwritten.
func TestTableResultsAreNew(t *testing.T) {
	l := readEntries(exampleTable)
	for range 2 {
		starts, _ := impl.LeastStarts(2, l, 6)
		widths, _ := impl.ColumnWidths(2, l, 6)
		latest, _ := impl.LatestColumns(2, l, 6, 72)
		tight, _ := impl.TightEntries(2, l, 6)
		spread, _ := impl.SpreadTable(2, l, 6, 73)
		least, _ := impl.SpreadTable(2, l, 6, 70)
		over, _ := impl.EntriesOver(2, l, 1)
		more, _ := impl.AddEntry(2, l, entryOf(0, 1, 5))
		lists := [][]int{starts, widths, latest, tight, spread, least, over}
		if !equalLists(lists, readCountLists("0 36/30 34/0 52/2/32 35/30 34/1 2")) || !slices.Equal(more, readEntries(exampleTable+" 0/1/5")) {
			t.Error(lists, more)
		}
		if shareAny(lists) || shareMemory(more, l) {
			t.Error("results share memory")
		}
		for _, x := range lists {
			overwrite(x, true)
		}
		overwrite(more, true)
		if !slices.Equal(l, readEntries(exampleTable)) {
			t.Fatal("an argument was changed:", l)
		}
	}
}
