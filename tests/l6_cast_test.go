package tests

import (
	"cmp"
	"math"
	"math/rand"
	"slices"
	"strconv"
	"strings"
	"testing"

	"loop.example/g01054/impl"
)

func machineOf(body, hourly, change int) impl.Machine {
	return impl.Machine{Body: body, Hourly: hourly, Change: change}
}

// readNumbers reads numbers with something between them.
func readNumbers(text, between string) []int {
	var numbers []int
	for _, field := range strings.Split(text, between) {
		n, err := strconv.Atoi(field)
		if err != nil {
			panic(err)
		}
		numbers = append(numbers, n)
	}
	return numbers
}

// readMachine reads the body, the types an hour and the minutes of a change, separated by slashes.
func readMachine(text string) impl.Machine {
	n := readNumbers(text, "/")
	return machineOf(n[0], n[1], n[2])
}

// readCastings reads bodies and counts, as in 12x1000, separated by blanks.
func readCastings(text string) []impl.Casting {
	var l []impl.Casting
	for _, field := range strings.Fields(text) {
		n := readNumbers(field, "x")
		l = append(l, impl.Casting{Body: n[0], Count: n[1]})
	}
	return l
}

// readOrder reads indices of one digit, without anything between them.
func readOrder(text string) []int {
	var order []int
	for _, digit := range []byte(text) {
		order = append(order, int(digit-'0'))
	}
	return order
}

func exampleMachine() impl.Machine    { return readMachine("10/3000/20") }
func exampleCastings() []impl.Casting { return readCastings("12x1000 10x500 12x50") }

func validMachines() []impl.Machine {
	return []impl.Machine{exampleMachine(), machineOf(1, 1, 0), machineOf(72, 10000, 600), machineOf(1, 10000, 600), machineOf(72, 1, 0), machineOf(12, 3000, 1)}
}

func invalidMachines() []impl.Machine {
	l := []impl.Machine{{}}
	for _, n := range []int{-1, -10, math.MinInt, math.MaxInt} {
		l = append(l, machineOf(n, 3000, 20), machineOf(10, n, 20), machineOf(10, 3000, n), machineOf(n, n, n))
	}
	for _, body := range []int{0, 73, 100} {
		l = append(l, machineOf(body, 3000, 20))
	}
	for _, hourly := range []int{0, 10001, 100000} {
		l = append(l, machineOf(10, hourly, 20))
	}
	return append(l, machineOf(10, 3000, 601), machineOf(10, 3000, 10000))
}

func invalidCastings() []impl.Casting {
	l := []impl.Casting{{}}
	for _, n := range []int{0, -1, -12, math.MinInt, math.MaxInt} {
		l = append(l, impl.Casting{Body: n, Count: 1000}, impl.Casting{Body: 12, Count: n}, impl.Casting{Body: n, Count: n})
	}
	return append(l, readCastings("73x1000 100x1000 12x100001 12x1000000")...)
}

// manyCastings returns n castings with the bodies 1, 2, .. and the counts 100, 200, ..
func manyCastings(n int) []impl.Casting {
	var l []impl.Casting
	for i := range n {
		l = append(l, impl.Casting{Body: i%72 + 1, Count: 100 * (i + 1)})
	}
	return l
}

func validCastingLists() [][]impl.Casting {
	return [][]impl.Casting{
		nil, {}, exampleCastings(), readCastings("1x1"), readCastings("72x100000"), readCastings("1x100000 72x1"),
		readCastings("10x5 10x5 10x5"), manyCastings(7), manyCastings(8), slices.Repeat(readCastings("72x100000"), 8),
	}
}

func invalidCastingLists() [][]impl.Casting {
	lists := [][]impl.Casting{manyCastings(9), manyCastings(10), manyCastings(1000), slices.Repeat(readCastings("12x1000"), 9)}
	for _, x := range invalidCastings() {
		seven := manyCastings(7)
		lists = append(lists, []impl.Casting{x}, append(exampleCastings(), x), append([]impl.Casting{x}, exampleCastings()...), append(seven[:6:6], x, seven[6]), append(seven, x))
	}
	return lists
}

// invalidOrders returns what is no order of n castings.
func invalidOrders(n int) [][]int {
	var orders [][]int
	for _, i := range []int{-1, -2, -n, -8, n, n + 1, 8, 9, 100, math.MaxInt, math.MinInt} {
		if i >= 0 && i < n {
			continue
		}
		orders = append(orders, []int{i}, []int{i, 0}, []int{i, i})
		if n > 0 {
			orders = append(orders, []int{0, i}, []int{n - 1, i})
		}
	}
	if n > 0 {
		orders = append(orders, []int{0, 0}, []int{n - 1, n - 1}, slices.Repeat([]int{0}, 8), slices.Repeat([]int{0}, 9), slices.Repeat([]int{n - 1}, 1000))
	}
	if n > 1 {
		orders = append(orders, []int{0, 1, 0}, []int{1, 0, 0}, []int{0, n - 1, n - 1}, append(upTo(n), 0), append(upTo(n), n-1), append(upTo(n), n), append(upTo(n), upTo(n)...))
	}
	return orders
}

// upTo returns the numbers from 0 on that are less than n.
func upTo(n int) []int {
	l := make([]int, n)
	for i := range l {
		l[i] = i
	}
	return l
}

var invalidMinutes = []int{-1, -100, math.MinInt, 100001, 100002, 1000000, math.MaxInt}

func TestCastingConstants(t *testing.T) {
	if impl.MaxCastings != 8 {
		t.Error(impl.MaxCastings)
	}
}

func TestAreCastings(t *testing.T) {
	for _, l := range validCastingLists() {
		if !impl.AreCastings(l) {
			t.Errorf("%v are castings", l)
		}
	}
	for _, l := range invalidCastingLists() {
		if impl.AreCastings(l) {
			t.Errorf("%.100v are no castings", l)
		}
	}
	for body := -3; body < 80; body++ {
		if impl.AreCastings([]impl.Casting{{Body: body, Count: 5}}) != (body >= 1 && body <= 72) {
			t.Error("body", body)
		}
	}
	for n := range 12 {
		if impl.AreCastings(manyCastings(n)) != (n <= 8) {
			t.Error("castings", n)
		}
	}
}

func TestIsMachine(t *testing.T) {
	for _, m := range validMachines() {
		if !impl.IsMachine(m) {
			t.Errorf("%v is a machine", m)
		}
	}
	for _, m := range invalidMachines() {
		if impl.IsMachine(m) {
			t.Errorf("%v is no machine", m)
		}
	}
	for n := -3; n < 80; n++ {
		if impl.IsMachine(machineOf(n, 3000, 20)) != (n >= 1 && n <= 72) {
			t.Error("body", n)
		}
	}
	for n := -3; n < 11000; n++ {
		if impl.IsMachine(machineOf(10, n, 20)) != (n >= 1 && n <= 10000) {
			t.Error("types an hour", n)
		}
		if impl.IsMachine(machineOf(10, 3000, n)) != (n >= 0 && n <= 600) {
			t.Error("change", n)
		}
	}
}

func TestCastTime(t *testing.T) {
	cases := []struct{ hourly, count, want int }{
		{3000, 1000, 20}, // evenly
		{3000, 999, 20},
		{3000, 951, 20},
		{3000, 950, 19},
		{3000, 1001, 21},
		{3000, 50, 1},
		{3000, 51, 2},
		{3000, 1, 1},
		{1, 1, 60},
		{1, 2, 120},
		{1, 100000, 6000000},
		{2, 1, 30},
		{7, 1, 9},
		{7, 7, 60},
		{59, 1, 2},
		{59, 59, 60},
		{60, 1, 1},
		{60, 2, 2},
		{60, 100000, 100000},
		{61, 1, 1},
		{61, 61, 60},
		{61, 62, 61},
		{120, 2, 1},
		{120, 3, 2},
		{10000, 1, 1},
		{10000, 166, 1},
		{10000, 167, 2},
		{10000, 500, 3},
		{10000, 501, 4},
		{10000, 99999, 600},
		{10000, 100000, 600},
		{9999, 100000, 601},
	}
	for _, c := range cases {
		// Neither the bodies nor the change matter.
		for _, m := range []impl.Machine{machineOf(10, c.hourly, 0), machineOf(1, c.hourly, 600), machineOf(72, c.hourly, 20)} {
			for _, body := range []int{1, 10, 72} {
				if n, ok := impl.CastTime(m, impl.Casting{Body: body, Count: c.count}); n != c.want || !ok {
					t.Errorf("%d of the body %d on %v: %d %v, want %d", c.count, body, m, n, ok, c.want)
				}
			}
		}
	}
}

// orderCases tell when the castings of an order end, and how often the machine is changed in it.
var orderCases = []struct {
	machine, castings, order string
	ends                     []int
	changes                  int
}{
	{"10/3000/20", "12x1000", "0", []int{40}, 1},
	{"10/3000/20", "12x1000", "", nil, 0},
	{"10/3000/20", "", "", nil, 0},
	{"12/3000/20", "12x1000", "0", []int{20}, 0}, // the body is in the machine
	{"10/3000/0", "12x1000", "0", []int{20}, 1},  // a change that takes no time is one
	{"10/3000/600", "12x1000", "0", []int{620}, 1},
	{"10/3000/20", "12x1000 10x500 12x50", "012", []int{40, 70, 91}, 3},
	{"10/3000/20", "12x1000 10x500 12x50", "021", []int{40, 41, 71}, 2},
	{"10/3000/20", "12x1000 10x500 12x50", "102", []int{10, 50, 51}, 1},
	{"10/3000/20", "12x1000 10x500 12x50", "120", []int{10, 31, 51}, 1},
	{"10/3000/20", "12x1000 10x500 12x50", "201", []int{21, 41, 71}, 2},
	{"10/3000/20", "12x1000 10x500 12x50", "210", []int{21, 51, 91}, 3},
	// Some castings only.
	{"10/3000/20", "12x1000 10x500 12x50", "2", []int{21}, 1},
	{"10/3000/20", "12x1000 10x500 12x50", "1", []int{10}, 0},
	{"10/3000/20", "12x1000 10x500 12x50", "20", []int{21, 41}, 1},
	{"10/3000/20", "12x1000 10x500 12x50", "21", []int{21, 51}, 2},
	// One body in a row, no change and a change before each one.
	{"10/60/7", "10x1 10x2 10x3 10x4", "3210", []int{4, 7, 9, 10}, 0},
	{"11/60/7", "10x1 10x2 10x3 10x4", "0123", []int{8, 10, 13, 17}, 1},
	{"10/60/7", "1x1 2x2 3x3 4x4", "0123", []int{8, 17, 27, 38}, 4},
	{"1/60/7", "1x1 2x2 3x3 4x4", "0123", []int{1, 10, 20, 31}, 3},
	{"4/60/7", "1x1 2x2 3x3 4x4", "0123", []int{8, 17, 27, 38}, 4}, // it comes too late
	{"9/60/5", "8x1 9x1 8x1 9x1", "0123", []int{6, 12, 18, 24}, 4},
	{"9/60/5", "8x1 9x1 8x1 9x1", "1302", []int{1, 2, 8, 9}, 1},
	// Each one is rounded up by itself.
	{"10/10000/0", "10x1 10x1 10x1 10x1 10x1 10x1 10x1 10x1", "76543210", []int{1, 2, 3, 4, 5, 6, 7, 8}, 0},
	{"72/1/600", "1x100000 72x100000", "01", []int{6000600, 12001200}, 2},
	{"72/1/600", "1x100000 72x100000", "10", []int{6000000, 12000600}, 1},
}

func TestOrders(t *testing.T) {
	for _, c := range orderCases {
		m, l, order := readMachine(c.machine), readCastings(c.castings), readOrder(c.order)
		if ends, ok := impl.EndsOf(m, l, order); !slices.Equal(ends, c.ends) || !ok {
			t.Errorf("ends of %q of %s on %s: %v %v, want %v", c.order, c.castings, c.machine, ends, ok, c.ends)
		}
		all, sum := 0, 0
		for _, end := range c.ends {
			all, sum = end, sum+end
		}
		if n, ok := impl.OrderTime(m, l, order); n != all || !ok {
			t.Errorf("time of %q of %s on %s: %d %v, want %d", c.order, c.castings, c.machine, n, ok, all)
		}
		if n, ok := impl.ChangesIn(m, l, order); n != c.changes || !ok {
			t.Errorf("changes in %q of %s on %s: %d %v, want %d", c.order, c.castings, c.machine, n, ok, c.changes)
		}
		if n, of, ok := impl.MeanEnd(m, l, order); n != sum || of != len(order) || ok != (len(order) > 0) {
			t.Errorf("mean end of %q of %s on %s: %d/%d %v, want %d", c.order, c.castings, c.machine, n, of, ok, sum)
		}
	}
}

func TestMeanEnd(t *testing.T) {
	m, l := exampleMachine(), exampleCastings()
	if sum, n, ok := impl.MeanEnd(m, l, []int{1}); sum != 10 || n != 1 || !ok {
		t.Error("one end", sum, n, ok)
	}
	if sum, n, ok := impl.MeanEnd(m, l, []int{1, 2, 0}); sum != 92 || n != 3 || !ok {
		t.Error("three ends", sum, n, ok)
	}
	if sum, n, ok := impl.MeanEnd(machineOf(72, 1, 600), slices.Repeat(readCastings("1x100000"), 8), upTo(8)); sum != 36*6000000+8*600 || n != 8 || !ok {
		t.Error("eight ends", sum, n, ok)
	}
	for _, l := range validCastingLists() {
		for _, order := range [][]int{nil, {}} {
			if sum, n, ok := impl.MeanEnd(m, l, order); sum != 0 || n != 0 || ok {
				t.Errorf("none of %v: %d/%d %v", l, sum, n, ok)
			}
		}
	}
}

func TestDoneBy(t *testing.T) {
	cases := []struct {
		machine, castings, order string
		minutes, want            int
	}{
		{"10/3000/20", "12x1000", "0", 0, 0},
		{"10/3000/20", "12x1000", "0", 39, 0},
		{"10/3000/20", "12x1000", "0", 40, 1},
		{"10/3000/20", "12x1000", "0", 41, 1},
		{"10/3000/20", "12x1000", "0", 100000, 1},
		{"10/3000/20", "12x1000", "", 0, 0},
		{"10/3000/20", "12x1000", "", 100000, 0},
		{"10/3000/20", "", "", 0, 0},
		{"10/3000/20", "", "", 100000, 0},
		{"10/3000/20", "12x1000 10x500 12x50", "120", 9, 0},
		{"10/3000/20", "12x1000 10x500 12x50", "120", 10, 1},
		{"10/3000/20", "12x1000 10x500 12x50", "120", 30, 1},
		{"10/3000/20", "12x1000 10x500 12x50", "120", 31, 2},
		{"10/3000/20", "12x1000 10x500 12x50", "120", 50, 2},
		{"10/3000/20", "12x1000 10x500 12x50", "120", 51, 3},
		{"10/3000/20", "12x1000 10x500 12x50", "2", 51, 1}, // the others are not done
		{"10/10000/0", "10x1 10x1 10x1 10x1 10x1 10x1 10x1 10x1", "76543210", 0, 0},
		{"10/10000/0", "10x1 10x1 10x1 10x1 10x1 10x1 10x1 10x1", "76543210", 7, 7},
		{"10/10000/0", "10x1 10x1 10x1 10x1 10x1 10x1 10x1 10x1", "76543210", 8, 8},
		{"10/60/0", "10x100000", "0", 99999, 0},
		{"10/60/0", "10x100000", "0", 100000, 1},
		{"10/60/0", "10x99999 10x1", "01", 100000, 2},
		{"10/60/0", "10x99999 10x2", "01", 100000, 1},
		{"72/1/600", "1x100000 72x100000", "01", 100000, 0},
	}
	for _, c := range cases {
		if n, ok := impl.DoneBy(readMachine(c.machine), readCastings(c.castings), readOrder(c.order), c.minutes); n != c.want || !ok {
			t.Errorf("%q of %s on %s by %d: %d %v, want %d", c.order, c.castings, c.machine, c.minutes, n, ok, c.want)
		}
	}
}

func TestBestCastOrder(t *testing.T) {
	cases := []struct {
		machine, castings, order string
		minutes                  int
	}{
		{"10/3000/20", "", "", 0},
		{"10/3000/20", "12x1000", "0", 40},
		{"12/3000/20", "12x1000", "0", 20},
		{"10/3000/20", "12x1000 10x500 12x50", "102", 51}, // and 120 is as good
		{"12/3000/20", "12x1000 10x500 12x50", "021", 51},
		{"11/3000/20", "12x1000 10x500 12x50", "021", 71}, // two changes at least
		{"11/3000/0", "12x1000 10x500 12x50", "012", 31},  // changes do not matter
		{"10/60/1", "12x1 11x1 10x1", "201", 5},
		{"11/60/1", "12x1 11x1 10x1", "102", 5},
		{"12/60/1", "12x1 11x1 10x1", "012", 5},
		{"9/60/1", "12x1 11x1 10x1", "012", 6},
		{"9/60/600", "8x1 9x1 8x1 9x1", "1302", 604},
		{"8/60/600", "8x1 9x1 8x1 9x1", "0213", 604},
		{"7/60/600", "8x1 9x1 8x1 9x1", "0213", 1204},
		{"10/60/7", "10x1 10x2 10x3 10x4", "0123", 10},
		{"10/60/7", "10x4 10x3 10x2 10x1", "0123", 10},
		{"10/60/7", "1x1 2x1 3x1 4x1 5x1 6x1 7x1 8x1", "01234567", 64},
		{"8/60/7", "1x1 2x1 3x1 4x1 5x1 6x1 7x1 8x1", "70123456", 57},
		{"4/60/7", "1x1 4x1 1x1 4x1 1x1 4x1 1x1 4x1", "13570246", 15},
		{"4/60/7", "1x1 2x1 3x1 4x1 1x1 2x1 3x1 4x1", "37041526", 29},
		{"5/60/7", "1x1 2x1 3x1 4x1 1x1 2x1 3x1 4x1", "04152637", 36},
		{"10/10000/0", "10x1 10x1 10x1 10x1 10x1 10x1 10x1 10x1", "01234567", 8},
		{"72/1/600", "1x100000 72x100000", "10", 12000600},
	}
	for _, c := range cases {
		order, minutes, ok := impl.BestCastOrder(readMachine(c.machine), readCastings(c.castings))
		if !slices.Equal(order, readOrder(c.order)) || minutes != c.minutes || !ok {
			t.Errorf("%s on %s: %v in %d %v, want %s in %d", c.castings, c.machine, order, minutes, ok, c.order, c.minutes)
		}
	}
}

func TestMostCastings(t *testing.T) {
	cases := []struct {
		machine, castings string
		minutes           int
		order             string
	}{
		{"10/3000/20", "", 0, ""},
		{"10/3000/20", "", 100000, ""},
		{"10/3000/20", "12x1000", 0, ""},
		{"10/3000/20", "12x1000", 39, ""}, // one too few
		{"10/3000/20", "12x1000", 40, "0"},
		{"10/3000/20", "12x1000", 100000, "0"},
		{"10/3000/20", "12x1000 10x500 12x50", 0, ""},
		{"10/3000/20", "12x1000 10x500 12x50", 9, ""},
		{"10/3000/20", "12x1000 10x500 12x50", 10, "1"},
		{"10/3000/20", "12x1000 10x500 12x50", 20, "1"},
		{"10/3000/20", "12x1000 10x500 12x50", 21, "1"}, // and 2 alone
		{"10/3000/20", "12x1000 10x500 12x50", 30, "1"},
		{"10/3000/20", "12x1000 10x500 12x50", 31, "12"},
		{"10/3000/20", "12x1000 10x500 12x50", 40, "12"},
		{"10/3000/20", "12x1000 10x500 12x50", 41, "02"},
		{"10/3000/20", "12x1000 10x500 12x50", 50, "02"},
		{"10/3000/20", "12x1000 10x500 12x50", 51, "102"},
		{"10/3000/20", "12x1000 10x500 12x50", 70, "102"},
		{"10/3000/20", "12x1000 10x500 12x50", 71, "021"},
		{"10/3000/20", "12x1000 10x500 12x50", 90, "021"},
		{"10/3000/20", "12x1000 10x500 12x50", 91, "012"},
		{"10/3000/20", "12x1000 10x500 12x50", 100000, "012"},
		// Several have as many.
		{"10/60/0", "10x3 10x3 10x3", 6, "01"},
		{"10/60/0", "10x4 10x3 10x3", 6, "12"},
		{"10/60/0", "10x3 10x4 10x3", 6, "02"},
		{"10/60/0", "10x4 10x4 10x3", 6, "0"},
		{"10/60/0", "10x4 10x3 10x2 10x1", 5, "03"},
		{"10/60/0", "10x4 10x3 10x2 10x1", 6, "123"}, // more, though the first one would have ended too
		{"10/60/0", "10x4 10x3 10x2 10x1", 7, "023"},
		{"10/60/0", "10x4 10x3 10x2 10x1", 8, "013"},
		{"10/60/0", "10x4 10x3 10x2 10x1", 9, "012"},
		{"10/60/0", "10x4 10x3 10x2 10x1", 10, "0123"},
		// A long one that ends no earlier than others, and a body that would have to be changed to.
		{"10/60/5", "11x1 10x6", 6, "0"},
		{"10/60/5", "11x1 10x6", 11, "0"},
		{"10/60/5", "11x1 10x6", 12, "10"},
		{"10/60/5", "11x1 10x6", 16, "10"},
		{"10/60/5", "11x1 10x6", 17, "01"},
		{"10/60/0", "10x100000", 99999, ""},
		{"10/60/0", "10x100000", 100000, "0"},
		{"10/60/0", "10x99999 10x1", 100000, "01"},
		{"10/60/0", "10x99999 10x2", 100000, "0"},
		{"10/10000/0", "10x1 10x1 10x1 10x1 10x1 10x1 10x1 10x1", 7, "0123456"},
		{"10/10000/0", "10x1 10x1 10x1 10x1 10x1 10x1 10x1 10x1", 8, "01234567"},
		{"10/10000/0", "10x167 10x1 10x1 10x1 10x1 10x1 10x1 10x1", 7, "1234567"},
		{"72/1/600", "1x100000 72x100000", 100000, ""},
	}
	for _, c := range cases {
		order, ok := impl.MostCastings(readMachine(c.machine), readCastings(c.castings), c.minutes)
		if !slices.Equal(order, readOrder(c.order)) || !ok {
			t.Errorf("%s on %s by %d: %v %v, want %s", c.castings, c.machine, c.minutes, order, ok, c.order)
		}
	}
}

func TestShareOfMachines(t *testing.T) {
	cases := []struct {
		m, n, castings, share string
		end                   int
	}{
		{"10/3000/20", "12/3000/20", "", "", 0},
		// One casting.
		{"10/3000/20", "12/3000/20", "12x1000", "1", 20},
		{"12/3000/20", "10/3000/20", "12x1000", "0", 20},
		{"12/3000/20", "12/3000/20", "12x1000", "0", 20},
		{"10/3000/20", "10/3000/20", "12x1000", "0", 40},
		{"10/3000/20", "10/6000/20", "12x1000", "1", 30},
		{"10/3000/21", "10/3000/20", "12x1000", "1", 40},
		{"10/3000/20", "10/3000/21", "12x1000", "0", 40},
		// Like machines: the first one takes the first casting.
		{"10/60/0", "10/60/0", "10x1 10x1", "01", 1},
		{"10/60/0", "10/60/0", "10x1 10x1 10x2", "001", 2},
		{"10/60/0", "10/60/0", "10x2 10x1 10x1", "011", 2},
		{"10/60/0", "10/60/0", "10x3 10x1 10x1", "011", 3}, // nothing better with one of them
		{"10/60/0", "10/60/0", "10x1 10x1 10x3", "001", 3},
		{"10/60/0", "10/60/0", "10x1 10x1 10x1", "001", 2},
		{"10/60/0", "10/60/0", "10x1 10x5 10x1", "010", 5},
		{"10/60/0", "10/60/0", "10x1 10x9 10x1 10x1", "0100", 9},
		{"10/60/0", "10/60/0", "10x3 10x3 10x2 10x2 10x2", "00111", 6},
		{"10/60/0", "10/60/0", "10x1 10x1 10x1 10x1 10x1 10x1 10x1 10x1", "00001111", 4},
		{"10/60/0", "10/60/0", "10x1 10x2 10x3 10x4 10x5 10x6 10x7 10x8", "00001110", 18},
		// One machine that does all, and several with the same end.
		{"10/10000/0", "10/1/0", "10x100 10x100 10x100", "000", 3},
		{"10/1/0", "10/10000/0", "10x100 10x100 10x100", "111", 3},
		{"10/60/600", "11/60/600", "10x1 10x2 10x3", "000", 6},
		{"11/60/600", "10/60/600", "10x1 10x2 10x3", "111", 6},
		{"10/60/3", "11/60/3", "10x3 10x3 10x3", "001", 6}, // 001, 010 and 100
		// The order of the indices, though another one would have fewer changes.
		{"10/60/5", "11/1/5", "10x1 11x1 10x1", "000", 13},
		{"10/60/5", "11/60/5", "10x1 11x1 10x1", "010", 2},
		{"10/60/5", "11/60/5", "11x1 10x1 11x1 10x1", "1010", 2},
		{"10/3000/20", "12/3000/20", "12x1000 10x500 12x50", "101", 21},
		{"72/1/600", "72/1/600", "1x100000 1x100000", "01", 6000600},
	}
	for _, c := range cases {
		share, end, ok := impl.ShareOfMachines(readMachine(c.m), readMachine(c.n), readCastings(c.castings))
		if !slices.Equal(share, readOrder(c.share)) || end != c.end || !ok {
			t.Errorf("%s on %s and %s: %v with %d %v, want %s with %d", c.castings, c.m, c.n, share, end, ok, c.share, c.end)
		}
	}
}

// endsOnMachine reckons the ends of an order by doing one casting after the other, and how often the machine is changed.
func endsOnMachine(m impl.Machine, l []impl.Casting, order []int) (ends []int, changes int) {
	now, in := 0, m.Body
	for _, i := range order {
		if in != l[i].Body {
			in, now, changes = l[i].Body, now+m.Change, changes+1
		}
		now += (60*l[i].Count - 1) / m.Hourly
		now++
		ends = append(ends, now)
	}
	return ends, changes
}

func lastOf(ends []int) int {
	if len(ends) == 0 {
		return 0
	}
	return ends[len(ends)-1]
}

// allCastOrders returns all orders of n castings, the empty one too: the numbers that are written with their digits, none of them twice.
func allCastOrders(n int) [][]int {
	orders := [][]int{nil}
	for at := 0; at < len(orders); at++ {
		for i := range n {
			if !slices.Contains(orders[at], i) {
				orders = append(orders, append(slices.Clip(orders[at]), i))
			}
		}
	}
	return orders
}

// randomCastings returns n castings of a few bodies, with counts that are small, alike, or any.
func randomCastings(r *rand.Rand, n int) []impl.Casting {
	bodies := 1 + r.Intn(4)
	most := []int{3, 50, 1000, 100000}[r.Intn(4)]
	l := make([]impl.Casting, n)
	for i := range l {
		l[i] = impl.Casting{Body: 9 + r.Intn(bodies), Count: 1 + r.Intn(most)}
	}
	return l
}

func randomMachine(r *rand.Rand) impl.Machine {
	hourly := []int{60, 60, 30, 3000, 10000, 1 + r.Intn(100), 1 + r.Intn(10000)}[r.Intn(7)]
	change := []int{0, 1, 2, 20, 600, r.Intn(601)}[r.Intn(6)]
	return machineOf(8+r.Intn(5), hourly, change)
}

// checkCastOrder checks what is told of an order, and that its ends follow each other.
func checkCastOrder(t *testing.T, m impl.Machine, l []impl.Casting, order []int, minutes int) {
	t.Helper()
	want, changes := endsOnMachine(m, l, order)
	ends, ok := impl.EndsOf(m, l, order)
	if !slices.Equal(ends, want) || !ok {
		t.Fatalf("ends of %v of %v on %v: %v %v, want %v", order, l, m, ends, ok, want)
	}
	sum, done, before := 0, 0, 0
	for k, end := range ends {
		time, ok := impl.CastTime(m, l[order[k]])
		if gap := end - before - time; gap != 0 && gap != m.Change || !ok {
			t.Fatalf("%v of %v on %v: %d does not follow %d with %d %v", order, l, m, end, before, time, ok)
		}
		sum, before = sum+end, end
		if end <= minutes {
			done++
		}
	}
	if n, ok := impl.OrderTime(m, l, order); n != lastOf(want) || !ok {
		t.Fatalf("time of %v of %v on %v: %d %v, want %v", order, l, m, n, ok, want)
	}
	if n, ok := impl.ChangesIn(m, l, order); n != changes || !ok {
		t.Fatalf("changes in %v of %v on %v: %d %v, want %d", order, l, m, n, ok, changes)
	}
	if n, ok := impl.DoneBy(m, l, order, minutes); n != done || !ok {
		t.Fatalf("%v of %v on %v by %d: %d %v, want %d", order, l, m, minutes, n, ok, done)
	}
	if n, of, ok := impl.MeanEnd(m, l, order); n != sum || of != len(order) || ok != (len(order) > 0) {
		t.Fatalf("mean end of %v of %v on %v: %d/%d %v, want %d", order, l, m, n, of, ok, sum)
	}
}

func TestRandomCastOrders(t *testing.T) {
	r := rand.New(rand.NewSource(31))
	for range 10000 {
		m, l := randomMachine(r), randomCastings(r, r.Intn(9))
		order := r.Perm(len(l))[:r.Intn(len(l)+1)]
		ends, _ := endsOnMachine(m, l, order)
		minutes := r.Intn(100001)
		if len(ends) > 0 && r.Intn(4) > 0 {
			minutes = min(max(ends[r.Intn(len(ends))]+r.Intn(3)-1, 0), 100000)
		}
		checkCastOrder(t, m, l, order, minutes)
	}
}

// checkBestOrder checks that no order takes less time than the best one, and none that comes before it takes as little. It returns how many are as good.
func checkBestOrder(t *testing.T, m impl.Machine, l []impl.Casting, orders [][]int) int {
	t.Helper()
	best, minutes, ok := impl.BestCastOrder(m, l)
	if ends, _ := endsOnMachine(m, l, best); lastOf(ends) != minutes || len(best) != len(l) || !ok {
		t.Fatalf("%v on %v: %v in %d %v, but it ends at %v", l, m, best, minutes, ok, ends)
	}
	asGood := 0
	for _, order := range orders {
		if len(order) < len(l) {
			continue
		}
		ends, _ := endsOnMachine(m, l, order)
		if n := lastOf(ends); n < minutes || n == minutes && slices.Compare(order, best) < 0 {
			t.Fatalf("%v on %v: %v in %d, but %v in %d", l, m, best, minutes, order, n)
		} else if n == minutes {
			asGood++
		}
	}
	if asGood == 0 {
		t.Fatalf("%v on %v: %v is no order", l, m, best)
	}
	return asGood
}

// checkMostCastings checks that no order with more castings has ended at some minutes, and none that comes before with as many. It returns how many are as good.
func checkMostCastings(t *testing.T, m impl.Machine, l []impl.Casting, orders [][]int, minutes int) int {
	t.Helper()
	most, ok := impl.MostCastings(m, l, minutes)
	if !ok {
		t.Fatalf("%v on %v by %d fails", l, m, minutes)
	}
	asGood := 0
	for _, order := range orders {
		if ends, _ := endsOnMachine(m, l, order); lastOf(ends) > minutes || len(order) < len(most) {
			continue
		}
		if len(order) > len(most) || slices.Compare(order, most) < 0 {
			t.Fatalf("%v on %v by %d: %v, but not %v", l, m, minutes, most, order)
		}
		asGood++
	}
	if asGood == 0 {
		t.Fatalf("%v on %v by %d: %v has not ended", l, m, minutes, most)
	}
	return asGood
}

func TestRandomBestOrders(t *testing.T) {
	r := rand.New(rand.NewSource(32))
	var orders [6][][]int
	for n := range orders {
		orders[n] = allCastOrders(n)
	}
	several, none, all, some := 0, 0, 0, 0
	for range 2000 {
		m, l := randomMachine(r), randomCastings(r, r.Intn(6))
		if checkBestOrder(t, m, l, orders[len(l)]) > 1 {
			several++
		}
		_, least, _ := impl.BestCastOrder(m, l)
		for _, minutes := range []int{0, least - 1, least, least + 1, r.Intn(least + 2), r.Intn(least + 2), 100000} {
			minutes = min(max(minutes, 0), 100000)
			checkMostCastings(t, m, l, orders[len(l)], minutes)
			switch most, _ := impl.MostCastings(m, l, minutes); len(most) {
			case 0:
				none++
			case len(l):
				all++
			default:
				some++
			}
		}
	}
	if min(several, none, all, some) < 500 {
		t.Error("too few:", several, none, all, some)
	}
}

// TestOrdersOfEight checks orders of the most castings against all 109601.
func TestOrdersOfEight(t *testing.T) {
	r := rand.New(rand.NewSource(33))
	orders := allCastOrders(8)
	for range 8 {
		m, l := randomMachine(r), randomCastings(r, 8)
		checkBestOrder(t, m, l, orders)
		_, least, _ := impl.BestCastOrder(m, l)
		checkMostCastings(t, m, l, orders, min(r.Intn(least+1), 100000))
	}
}

func TestRandomShareOfMachines(t *testing.T) {
	r := rand.New(rand.NewSource(34))
	several, oneAlone, both := 0, 0, 0
	type shared struct {
		end   int
		share []int
	}
	for range 3000 {
		m, n, l := randomMachine(r), randomMachine(r), randomCastings(r, r.Intn(9))
		if r.Intn(4) == 0 {
			n = m
		}
		var all []shared
		for number := range 1 << len(l) {
			var orders [2][]int
			share := make([]int, len(l))
			for i := range l {
				share[i] = number >> i & 1
				orders[share[i]] = append(orders[share[i]], i)
			}
			first, _ := endsOnMachine(m, l, orders[0])
			second, _ := endsOnMachine(n, l, orders[1])
			all = append(all, shared{max(lastOf(first), lastOf(second)), share})
		}
		slices.SortFunc(all, func(a, b shared) int {
			return cmp.Or(cmp.Compare(a.end, b.end), slices.Compare(a.share, b.share))
		})
		share, end, ok := impl.ShareOfMachines(m, n, l)
		if !slices.Equal(share, all[0].share) || end != all[0].end || !ok {
			t.Fatalf("%v on %v and %v: %v with %d %v, want %v", l, m, n, share, end, ok, all[0])
		}
		if len(all) > 1 && all[1].end == end {
			several++
		}
		if slices.Contains(share, 0) && slices.Contains(share, 1) {
			both++
		} else {
			oneAlone++
		}
	}
	if min(several, oneAlone, both) < 300 {
		t.Error("too few:", several, oneAlone, both)
	}
}

// refuseCastOrder checks that no function on an order takes these arguments.
func refuseCastOrder(t *testing.T, m impl.Machine, l []impl.Casting, order []int) {
	t.Helper()
	if n, ok := impl.OrderTime(m, l, order); n != 0 || ok {
		t.Errorf("time of %.50v of %.100v on %v: %d %v", order, l, m, n, ok)
	}
	if n, ok := impl.ChangesIn(m, l, order); n != 0 || ok {
		t.Errorf("changes in %.50v of %.100v on %v: %d %v", order, l, m, n, ok)
	}
	if ends, ok := impl.EndsOf(m, l, order); len(ends) != 0 || ok {
		t.Errorf("ends of %.50v of %.100v on %v: %v %v", order, l, m, ends, ok)
	}
	if n, of, ok := impl.MeanEnd(m, l, order); n != 0 || of != 0 || ok {
		t.Errorf("mean end of %.50v of %.100v on %v: %d/%d %v", order, l, m, n, of, ok)
	}
	for _, minutes := range []int{0, 1, 50, 100000, -1, 100001} {
		if n, ok := impl.DoneBy(m, l, order, minutes); n != 0 || ok {
			t.Errorf("%.50v of %.100v on %v by %d: %d %v", order, l, m, minutes, n, ok)
		}
	}
}

// refuseCastings checks that no function takes castings on a machine, one of which is invalid.
func refuseCastings(t *testing.T, m impl.Machine, l []impl.Casting) {
	t.Helper()
	for _, order := range [][]int{nil, {}, {0}, {0, 1}, upTo(len(l)), {len(l) - 1}, {8}, {-1}, {0, 0}} {
		refuseCastOrder(t, m, l, order)
	}
	if order, n, ok := impl.BestCastOrder(m, l); len(order) != 0 || n != 0 || ok {
		t.Errorf("best order of %.100v on %v: %v %d %v", l, m, order, n, ok)
	}
	for _, minutes := range []int{0, 1, 50, 100000, -1, 100001} {
		if order, ok := impl.MostCastings(m, l, minutes); len(order) != 0 || ok {
			t.Errorf("%.100v on %v by %d: %v %v", l, m, minutes, order, ok)
		}
	}
}

func refuseShare(t *testing.T, m, n impl.Machine, l []impl.Casting) {
	t.Helper()
	if share, end, ok := impl.ShareOfMachines(m, n, l); len(share) != 0 || end != 0 || ok {
		t.Errorf("share of %.100v on %v and %v: %v %d %v", l, m, n, share, end, ok)
	}
}

func TestInvalidMachines(t *testing.T) {
	for _, m := range invalidMachines() {
		for _, l := range append(validCastingLists(), invalidCastingLists()...) {
			refuseCastings(t, m, l)
			refuseShare(t, m, exampleMachine(), l)
			refuseShare(t, exampleMachine(), m, l)
			refuseShare(t, m, m, l)
		}
		for _, x := range append(invalidCastings(), exampleCastings()...) {
			if n, ok := impl.CastTime(m, x); n != 0 || ok {
				t.Errorf("%v on %v: %d %v", x, m, n, ok)
			}
		}
	}
}

func TestInvalidCastings(t *testing.T) {
	for _, m := range validMachines() {
		for _, l := range invalidCastingLists() {
			refuseCastings(t, m, l)
			refuseShare(t, m, exampleMachine(), l)
			refuseShare(t, exampleMachine(), m, l)
		}
		for _, x := range invalidCastings() {
			if n, ok := impl.CastTime(m, x); n != 0 || ok {
				t.Errorf("%v on %v: %d %v", x, m, n, ok)
			}
		}
	}
}

func TestInvalidCastOrders(t *testing.T) {
	for _, m := range validMachines() {
		for _, l := range validCastingLists() {
			for _, order := range invalidOrders(len(l)) {
				refuseCastOrder(t, m, l, order)
			}
		}
	}
}

func TestInvalidMinutes(t *testing.T) {
	for _, m := range validMachines() {
		for _, l := range validCastingLists() {
			for _, minutes := range invalidMinutes {
				for _, order := range [][]int{nil, upTo(len(l)), upTo(min(len(l), 1))} {
					if n, ok := impl.DoneBy(m, l, order, minutes); n != 0 || ok {
						t.Errorf("%v of %v on %v by %d: %d %v", order, l, m, minutes, n, ok)
					}
				}
				if order, ok := impl.MostCastings(m, l, minutes); len(order) != 0 || ok {
					t.Errorf("%v on %v by %d: %v %v", l, m, minutes, order, ok)
				}
			}
		}
	}
}

// castResults are the results of all functions on castings, each with its success.
type castResults struct {
	numbers                 [8]int
	areCastings             bool
	done                    [8]bool
	ends, best, most, share []int
}

func castResultsOf(m, n impl.Machine, l []impl.Casting, order []int, minutes int) (c castResults) {
	c.areCastings = impl.AreCastings(l)
	c.numbers[0], c.done[0] = impl.OrderTime(m, l, order)
	c.numbers[1], c.done[1] = impl.ChangesIn(m, l, order)
	c.best, c.numbers[2], c.done[2] = impl.BestCastOrder(m, l)
	c.numbers[3], c.done[3] = impl.DoneBy(m, l, order, minutes)
	c.ends, c.done[4] = impl.EndsOf(m, l, order)
	c.most, c.done[5] = impl.MostCastings(m, l, minutes)
	c.share, c.numbers[4], c.done[6] = impl.ShareOfMachines(m, n, l)
	c.numbers[5], c.numbers[6], c.done[7] = impl.MeanEnd(m, l, order)
	return c
}

func (c castResults) lists() [][]int { return [][]int{c.ends, c.best, c.most, c.share} }

// sameCastResults compares results; their lists are overwritten.
func sameCastResults(a, b castResults) bool {
	same := slices.EqualFunc(a.lists(), b.lists(), slices.Equal[[]int])
	for _, l := range append(a.lists(), b.lists()...) {
		overwrite(l, true)
	}
	return same && a.numbers == b.numbers && a.areCastings == b.areCastings && a.done == b.done
}

// TestCastingsStay calls the functions with lists that have spare capacity, of which they must neither take nor change anything, and overwrites the results.
func TestCastingsStay(t *testing.T) {
	lists := append(validCastingLists(), invalidCastingLists()[:9]...)
	for _, given := range lists {
		orders := append(invalidOrders(min(len(given), 8)), nil, upTo(len(given)), upTo(min(len(given), 2)))
		for k, indices := range orders {
			m, n := validMachines()[k%len(validMachines())], exampleMachine()
			minutes := []int{0, 40, 100000, 100001}[k%4]
			l, castingsStay := guarded(t, "castings", given, impl.Casting{Body: 10, Count: 5})
			order, orderStays := guarded(t, "order", indices, 0)
			plain := castResultsOf(m, n, slices.Clip(slices.Clone(given)), slices.Clip(slices.Clone(indices)), minutes)
			c := castResultsOf(m, n, l, order, minutes)
			for i, x := range c.lists() {
				if shareMemory(x, order) {
					t.Errorf("%.100v, %.100v: a result shares memory with the order", given, indices)
				}
				for _, y := range c.lists()[:i] {
					if shareMemory(x, y) {
						t.Errorf("%.100v, %.100v: results share memory", given, indices)
					}
				}
			}
			if !sameCastResults(c, plain) {
				t.Errorf("%.100v, %.100v: %v, without spare capacity %v", given, indices, c, plain)
			}
			castingsStay()
			orderStays()
		}
	}
}

// TestCastResultsAreNew checks that the same call gives the same result when an earlier one has been overwritten.
func TestCastResultsAreNew(t *testing.T) {
	m, l, order := exampleMachine(), exampleCastings(), []int{1, 2, 0}
	for range 2 {
		ends, _ := impl.EndsOf(m, l, order)
		best, _, _ := impl.BestCastOrder(m, l)
		most, _ := impl.MostCastings(m, l, 41)
		share, _, _ := impl.ShareOfMachines(m, machineOf(12, 3000, 20), l)
		if !slices.Equal(ends, []int{10, 31, 51}) || !slices.Equal(best, []int{1, 0, 2}) || !slices.Equal(most, []int{0, 2}) || !slices.Equal(share, []int{1, 0, 1}) {
			t.Error(ends, best, most, share)
		}
		for _, x := range [][]int{ends, best, most, share} {
			overwrite(x, true)
		}
		if !slices.Equal(l, exampleCastings()) || !slices.Equal(order, []int{1, 2, 0}) {
			t.Fatal("an argument was changed:", l, order)
		}
	}
}
