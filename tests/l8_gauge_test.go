package tests

import (
	"math"
	"math/rand"
	"slices"
	"testing"

	"loop.example/g01054/impl"
)

// readTrial reads deviations, or indices or sums, separated by blanks.
func readTrial(text string) []int {
	if text == "" {
		return nil
	}
	return readNumbers(text, " ")
}

func exampleTrial() []int { return []int{3, -1, 4, 5} }

// rising returns n numbers from one on, each one greater than the one before by a step.
func rising(n, from, step int) []int {
	l := make([]int, n)
	for i := range l {
		l[i] = from + i*step
	}
	return l
}

// opposite returns a list with all signs changed.
func opposite(l []int) []int {
	o := make([]int, len(l))
	for i, n := range l {
		o[i] = -n
	}
	return o
}

func validTrials() [][]int {
	lists := [][]int{
		counts(40, 0), counts(40, 500), counts(40, -500), counts(40, 7), counts(39, -1),
		rising(40, -20, 1), rising(40, 20, -1), rising(40, -500, 25), rising(39, 500, -26),
		slices.Concat(counts(20, -500), counts(20, 500)), slices.Repeat([]int{500, -500}, 20),
	}
	for _, text := range []string{
		"3 -1 4 5", "0", "1", "-1", "500", "-500", "499", "-499",
		"0 0", "1 2", "2 1", "-500 500", "500 -500", "500 500", "-3 3", "0 1", "-1 0",
		"1 2 3", "3 2 1", "1 3 2", "2 2 2", "-500 0 500", "1 1 2", "2 1 1",
		"5 3 4 4 6 8 2 1 0 -7 3", "0 0 0 0 1", "-4 -4 9 9 -4",
	} {
		lists = append(lists, readTrial(text))
	}
	return lists
}

func invalidTrials() [][]int {
	lists := [][]int{nil, {}, counts(41, 0), counts(41, 500), rising(41, -20, 1), counts(42, 1), counts(1000, 0), counts(41, 501)}
	for _, off := range []int{501, -501, 502, -502, 1000, -1000, math.MaxInt, math.MinInt, math.MinInt + 1} {
		lists = append(lists, []int{off}, []int{off, 0}, []int{0, off}, []int{3, -1, off, 5}, []int{off, off},
			withCount(counts(40, 0), 0, off), withCount(counts(40, 0), 39, off), withCount(counts(40, 500), 20, off))
	}
	return lists
}

var (
	validOffTolerances   = []int{0, 1, 3, 250, 499, 500}
	invalidOffTolerances = []int{-1, -2, -500, 501, 502, 1000, math.MinInt, math.MaxInt}
	validAllowed         = []int{0, 1, 2, 39, 40}
	invalidAllowed       = []int{-1, -2, -40, 41, 42, 100, math.MinInt, math.MaxInt}
	validAims            = []int{-500, -499, -1, 0, 1, 499, 500}
	invalidAims          = []int{-501, -502, -1000, 501, 502, 1000, math.MinInt, math.MaxInt, math.MinInt + 1}
	validLimits          = []int{0, 1, 19999, 20000}
	invalidLimits        = []int{-1, -2, -20000, 20001, 20002, 40000, math.MinInt, math.MaxInt}
)

func TestGaugeConstants(t *testing.T) {
	if impl.MaxSample != 40 || impl.MaxOff != 500 {
		t.Error(impl.MaxSample, impl.MaxOff)
	}
}

func TestIsTrial(t *testing.T) {
	for _, l := range validTrials() {
		if !impl.IsTrial(l) {
			t.Errorf("%v is a trial", l)
		}
	}
	for _, l := range invalidTrials() {
		if impl.IsTrial(l) {
			t.Errorf("%.100v is no trial", l)
		}
	}
	for off := -510; off <= 510; off++ {
		valid := off >= -500 && off <= 500
		for i := range 3 {
			if impl.IsTrial([]int{off}) != valid || impl.IsTrial(withCount([]int{7, 0, -7}, i, off)) != valid {
				t.Error("deviation", off, "at", i)
			}
		}
	}
	for n := range 60 {
		if impl.IsTrial(counts(n, 3)) != (n >= 1 && n <= 40) {
			t.Error("deviations", n)
		}
	}
}

// trialCases tell the mean, as a numerator and a denominator, the spread, the median, the longest drift and the correction of a trial.
var trialCases = []struct {
	trial         string
	sum, count    int
	spread        int
	median        int
	first, length int
	correction    int
}{
	{"3 -1 4 5", 11, 4, 6, 3, 1, 3, -3},
	// One deviation.
	{"0", 0, 1, 0, 0, 0, 1, 0},
	{"7", 7, 1, 0, 7, 0, 1, -7},
	{"-7", -7, 1, 0, -7, 0, 1, 7},
	{"500", 500, 1, 0, 500, 0, 1, -500},
	{"-500", -500, 1, 0, -500, 0, 1, 500},
	// Two.
	{"1 2", 3, 2, 1, 1, 0, 2, -1},
	{"2 1", 3, 2, 1, 1, 0, 2, -1},
	{"-1 -2", -3, 2, 1, -2, 0, 2, 1},
	{"-2 -1", -3, 2, 1, -2, 0, 2, 1},
	{"2 4", 3, 1, 2, 2, 0, 2, -2}, // a mean that is an integer
	{"-2 -4", -3, 1, 2, -4, 0, 2, 2},
	{"-3 3", 0, 1, 6, -3, 0, 2, 0},
	{"3 -3", 0, 1, 6, -3, 0, 2, 0},
	{"-1 4", 3, 2, 5, -1, 0, 2, 0},
	{"4 -1", 3, 2, 5, -1, 0, 2, 0},
	{"0 4", 2, 1, 4, 0, 0, 2, 0},
	{"-4 0", -2, 1, 4, -4, 0, 2, 0},
	{"1 -4", -3, 2, 5, -4, 0, 2, 0},
	{"-500 500", 0, 1, 1000, -500, 0, 2, 0},
	{"500 -500", 0, 1, 1000, -500, 0, 2, 0},
	{"499 500", 999, 2, 1, 499, 0, 2, -499},
	{"-499 -500", -999, 2, 1, -500, 0, 2, 499},
	// Equal ones: no neighbours drift.
	{"0 0", 0, 1, 0, 0, 0, 1, 0},
	{"5 5", 5, 1, 0, 5, 0, 1, -5},
	{"-5 -5 -5", -5, 1, 0, -5, 0, 1, 5},
	{"500 500 500", 500, 1, 0, 500, 0, 1, -500},
	{"0 0 0 0 1", 1, 5, 1, 0, 3, 2, 0},
	{"1 1 2", 4, 3, 1, 1, 1, 2, -1},
	{"2 1 1", 4, 3, 1, 1, 0, 2, -1},
	{"1 2 2 3", 2, 1, 2, 2, 0, 2, -2},
	{"1 2 2 3 4", 12, 5, 3, 2, 2, 3, -2},
	{"1 2 2 1", 3, 2, 1, 1, 0, 2, -1},
	{"4 3 3 2 1", 13, 5, 3, 3, 2, 3, -3},
	{"1 2 3 3 4 5", 3, 1, 4, 3, 0, 3, -3},
	{"3 2 1 1 0 -1", 1, 1, 4, 1, 0, 3, -1},
	// A mean that must be reduced.
	{"1 1 1 3", 3, 2, 2, 1, 2, 2, -1},
	{"1 2 3 4 5 -1", 7, 3, 6, 2, 0, 5, -2},
	{"1 0 0 0 0 1", 1, 3, 1, 0, 0, 2, 0},
	{"-1 0 0 0 0 -1", -1, 3, 1, 0, 0, 2, 0},
	{"0 0 0 0 0 0 0 8", 1, 1, 8, 0, 6, 2, 0},
	{"0 0 0 0 0 0 0 6", 3, 4, 6, 0, 6, 2, 0},
	{"0 0 0 0 0 0 0 0 6", 2, 3, 6, 0, 7, 2, 0},
	{"0 0 0 -1", -1, 4, 1, 0, 2, 2, 0},
	// A mean 0.
	{"-1 0 1", 0, 1, 2, 0, 0, 3, 0},
	{"5 -2 -3", 0, 1, 8, -2, 0, 3, 2},
	// An odd and an even number, in and out of order.
	{"9 1 5", 5, 1, 8, 5, 0, 2, -5},
	{"9 5 1", 5, 1, 8, 5, 0, 3, -5},
	{"1 9 5", 5, 1, 8, 5, 0, 2, -5},
	{"10 9 2 1", 11, 2, 9, 2, 0, 4, -2},
	{"-10 -9 -2 -1", -11, 2, 9, -9, 0, 4, 2},
	{"100 -3 2 1", 25, 1, 103, 1, 0, 2, -1},
	{"-100 -3 2 1", -25, 1, 102, -3, 0, 3, 0},
	{"-3 -3 2 2", -1, 2, 5, -3, 1, 2, 0},
	{"-9 1 2 3 -8", -11, 5, 12, 1, 0, 4, -1},
	{"10 2 30 4 50", 96, 5, 48, 10, 0, 2, -10},
	{"10 2 30 4 50 6", 17, 1, 48, 6, 0, 2, -6},
	// Several drifts.
	{"1 2 3 1 2 3", 2, 1, 2, 2, 0, 3, -2},
	{"3 2 1 3 2 1", 2, 1, 2, 2, 0, 3, -2},
	{"1 2 3 2 1", 9, 5, 2, 2, 0, 3, -2},
	{"3 2 1 2 3", 11, 5, 2, 2, 0, 3, -2},
	{"1 2 3 2 1 0", 3, 2, 3, 1, 2, 4, -1},
	{"3 2 1 2 3 4", 5, 2, 3, 2, 2, 4, -2},
	{"5 3 4 4 6 8 2 1 0 -7 3", 29, 11, 15, 3, 5, 5, -3},
	{"1 3 2 4 3 5", 3, 1, 4, 3, 0, 2, -3},
	{"1 3 2 4 5 3", 3, 1, 4, 3, 2, 3, -3},
	{"9 8 9 8 7 8 7 6 5 6", 73, 10, 4, 7, 5, 4, -7},
	{"-1 1 -2 2 -3 3", 0, 1, 6, -1, 0, 2, 0},
	{"0 1 2 3 -1 -2", 1, 2, 5, 0, 0, 4, 0},
	{"0 1 2 -1 -2 -3 -4", -1, 1, 6, -1, 2, 5, 1},
	{"-500 -499 499 500", 0, 1, 1000, -499, 0, 4, 0},
	{"1 1 1 2 3 4 4", 16, 7, 3, 2, 2, 4, -2},
}

func checkTrialCase(t *testing.T, l []int, want [7]int) {
	t.Helper()
	sum, count, one := impl.MeanOff(l)
	spread, two := impl.SpreadOff(l)
	median, three := impl.MedianOff(l)
	first, length, four := impl.LongestDrift(l)
	correction, five := impl.CorrectionFor(l)
	got := [7]int{sum, count, spread, median, first, length, correction}
	if got != want || !one || !two || !three || !four || !five {
		t.Errorf("%v: mean, spread, median, drift and correction %v, want %v; %v %v %v %v %v", l, got, want, one, two, three, four, five)
	}
}

func TestTrials(t *testing.T) {
	for _, c := range trialCases {
		checkTrialCase(t, readTrial(c.trial), [7]int{c.sum, c.count, c.spread, c.median, c.first, c.length, c.correction})
	}
}

func TestFullTrials(t *testing.T) {
	// The mean, the spread, the median, the drift and the correction of MaxSample deviations.
	checkTrialCase(t, counts(40, 0), [7]int{0, 1, 0, 0, 0, 1, 0})
	checkTrialCase(t, counts(40, 500), [7]int{500, 1, 0, 500, 0, 1, -500})
	checkTrialCase(t, counts(40, -500), [7]int{-500, 1, 0, -500, 0, 1, 500})
	checkTrialCase(t, withCount(counts(40, 0), 39, 1), [7]int{1, 40, 1, 0, 38, 2, 0})
	checkTrialCase(t, withCount(counts(40, 0), 0, -35), [7]int{-7, 8, 35, 0, 0, 2, 0})
	checkTrialCase(t, rising(40, 1, 1), [7]int{41, 2, 39, 20, 0, 40, -20})
	checkTrialCase(t, rising(40, -1, -1), [7]int{-41, 2, 39, -21, 0, 40, 20})
	checkTrialCase(t, rising(40, 500, -25), [7]int{25, 2, 975, 0, 0, 40, 0})
	checkTrialCase(t, slices.Concat(counts(20, -500), counts(20, 500)), [7]int{0, 1, 1000, -500, 19, 2, 0})
	checkTrialCase(t, slices.Concat(counts(21, -500), counts(19, 500)), [7]int{-25, 1, 1000, -500, 20, 2, 500})
	checkTrialCase(t, slices.Concat(counts(19, -500), counts(21, 500)), [7]int{25, 1, 1000, 500, 18, 2, -500})
	checkTrialCase(t, slices.Concat(rising(20, 1, 1), rising(20, 1, 1)), [7]int{21, 2, 19, 10, 0, 20, -10})
	checkTrialCase(t, slices.Concat(rising(20, 1, 1), rising(20, 20, -1)), [7]int{21, 2, 19, 10, 0, 20, -10})
	checkTrialCase(t, slices.Concat(rising(20, 1, 1), rising(20, 19, -1)), [7]int{10, 1, 20, 10, 19, 21, -10})
}

// outsideCases tell which deviations are outside a tolerance and which are left.
var outsideCases = []struct {
	trial         string
	most          int
	outside, left string
}{
	{"3 -1 4 5", 0, "0 1 2 3", ""},
	{"3 -1 4 5", 1, "0 2 3", "-1"},
	{"3 -1 4 5", 2, "0 2 3", "-1"},
	{"3 -1 4 5", 3, "2 3", "3 -1"},
	{"3 -1 4 5", 4, "3", "3 -1 4"},
	{"3 -1 4 5", 5, "", "3 -1 4 5"},
	{"3 -1 4 5", 500, "", "3 -1 4 5"},
	// The tolerance itself and its opposite, and one more.
	{"5 -5", 5, "", "5 -5"},
	{"5 -5", 4, "0 1", ""},
	{"5 -5 6 -6", 5, "2 3", "5 -5"},
	{"-6 -5 0 5 6", 5, "0 4", "-5 0 5"},
	{"0", 0, "", "0"},
	{"1", 0, "0", ""},
	{"-1", 0, "0", ""},
	{"1", 1, "", "1"},
	{"-1", 1, "", "-1"},
	{"0 1 -1 0", 0, "1 2", "0 0"},
	{"0 0 0", 0, "", "0 0 0"},
	{"500", 499, "0", ""},
	{"-500", 499, "0", ""},
	{"500", 500, "", "500"},
	{"-500", 500, "", "-500"},
	{"-500 499 500 -499", 499, "0 2", "499 -499"},
	{"-500 499 500 -499", 498, "0 1 2 3", ""},
	{"-500 499 500 -499", 500, "", "-500 499 500 -499"},
	{"-500 499 500 -499", 0, "0 1 2 3", ""},
	{"7 7 -7 7", 6, "0 1 2 3", ""},
	{"7 7 -7 7", 7, "", "7 7 -7 7"},
	{"9 1 9 1 9", 8, "0 2 4", "1 1"},
}

func TestOutside(t *testing.T) {
	for _, c := range outsideCases {
		l, want, left := readTrial(c.trial), readTrial(c.outside), readTrial(c.left)
		outside, ok := impl.OutsideOff(l, c.most)
		if !slices.Equal(outside, want) || !ok {
			t.Errorf("%s outside %d: %v %v, want %v", c.trial, c.most, outside, ok, want)
		}
		without, ok := impl.WithoutOutside(l, c.most)
		if !slices.Equal(without, left) || ok != (len(left) > 0) {
			t.Errorf("%s without those outside %d: %v %v, want %v", c.trial, c.most, without, ok, left)
		}
		for allowed := range 41 {
			if is, ok := impl.IsAccepted(l, c.most, allowed); is != (len(want) <= allowed) || !ok {
				t.Errorf("%s is accepted with %d, %d: %v %v", c.trial, c.most, allowed, is, ok)
			}
		}
	}
}

func TestIsAccepted(t *testing.T) {
	cases := []struct {
		trial         string
		most, allowed int
		want          bool
	}{
		{"3 -1 4 5", 4, 0, false},
		{"3 -1 4 5", 4, 1, true},
		{"3 -1 4 5", 5, 0, true},
		{"3 -1 4 5", 0, 3, false},
		{"3 -1 4 5", 0, 4, true}, // as many as there are
		{"3 -1 4 5", 0, 5, true},
		{"3 -1 4 5", 0, 40, true},
		{"0", 0, 0, true},
		{"1", 0, 0, false},
		{"-1", 0, 1, true},
		{"500 -500", 500, 0, true},
		{"500 -500", 499, 1, false},
		{"500 -500", 499, 2, true},
	}
	for _, c := range cases {
		if is, ok := impl.IsAccepted(readTrial(c.trial), c.most, c.allowed); is != c.want || !ok {
			t.Errorf("%s with %d, %d: %v %v", c.trial, c.most, c.allowed, is, ok)
		}
	}
	full := slices.Repeat([]int{500, -500}, 20)
	if is, ok := impl.IsAccepted(full, 499, 39); is || !ok {
		t.Error("full trial, 39 allowed:", is, ok)
	}
	if is, ok := impl.IsAccepted(full, 499, 40); !is || !ok {
		t.Error("full trial, 40 allowed:", is, ok)
	}
}

func TestLeastTolerance(t *testing.T) {
	cases := []struct {
		trial   string
		allowed int
		want    int
	}{
		{"3 -1 4 5", 0, 5},
		{"3 -1 4 5", 1, 4},
		{"3 -1 4 5", 2, 3},
		{"3 -1 4 5", 3, 1},
		{"3 -1 4 5", 4, 0}, // as many as there are
		{"3 -1 4 5", 5, 0},
		{"3 -1 4 5", 40, 0},
		{"0", 0, 0},
		{"0", 1, 0},
		{"7", 0, 7},
		{"-7", 0, 7},
		{"7", 1, 0},
		{"7", 2, 0},
		{"500", 0, 500},
		{"-500", 0, 500},
		{"-500", 40, 0},
		{"-500 3", 0, 500},
		{"-500 3", 1, 3},
		{"3 -500", 1, 3},
		{"-9 8 -7 6", 0, 9},
		{"-9 8 -7 6", 1, 8},
		{"-9 8 -7 6", 2, 7},
		{"-9 8 -7 6", 3, 6},
		{"4 -4 4", 1, 4},
		{"4 -4 4", 2, 4},
		{"4 -4 4", 3, 0},
		{"-5 5 2", 1, 5},
		{"-5 5 2", 2, 2},
		{"0 0 1", 1, 0},
	}
	for _, c := range cases {
		if n, ok := impl.LeastTolerance(readTrial(c.trial), c.allowed); n != c.want || !ok {
			t.Errorf("least tolerance of %s with %d: %d %v, want %d", c.trial, c.allowed, n, ok, c.want)
		}
	}
	full := rising(40, 1, 1)
	for allowed := range 41 {
		for _, l := range [][]int{full, opposite(full)} {
			if n, ok := impl.LeastTolerance(l, allowed); n != 40-allowed || !ok {
				t.Errorf("least tolerance of a full trial with %d: %d %v", allowed, n, ok)
			}
		}
	}
}

func TestSumsOff(t *testing.T) {
	cases := []struct {
		trial string
		aim   int
		want  string
	}{
		{"3 -1 4 5", 0, "3 2 6 11"},
		{"3 -1 4 5", 1, "2 0 3 7"},
		{"3 -1 4 5", -1, "4 4 9 15"},
		{"3 -1 4 5", 3, "0 -4 -3 -1"},
		{"3 -1 4 5", 500, "-497 -998 -1494 -1989"},
		{"3 -1 4 5", -500, "503 1002 1506 2011"},
		{"0", 0, "0"},
		{"0", 500, "-500"},
		{"500", -500, "1000"},
		{"-500", 500, "-1000"},
		{"500", 500, "0"},
		{"-500", -500, "0"},
		{"7 7 7", 7, "0 0 0"},
		{"-3 3 -3", 0, "-3 0 -3"},
		{"-500 500", 1, "-501 -2"},
	}
	for _, c := range cases {
		if l, ok := impl.SumsOff(readTrial(c.trial), c.aim); !slices.Equal(l, readTrial(c.want)) || !ok {
			t.Errorf("sums of %s with %d: %v %v, want %s", c.trial, c.aim, l, ok, c.want)
		}
	}
	// Sums may be greater than any limit.
	if l, ok := impl.SumsOff(counts(40, 500), -500); !slices.Equal(l, rising(40, 1000, 1000)) || !ok {
		t.Error("greatest sums:", l, ok)
	}
	if l, ok := impl.SumsOff(counts(40, -500), 500); !slices.Equal(l, rising(40, -1000, -1000)) || !ok {
		t.Error("least sums:", l, ok)
	}
}

func TestFirstAlarm(t *testing.T) {
	cases := []struct {
		trial      string
		aim, limit int
		want       int // -1 for none
	}{
		{"3 -1 4 5", 0, 0, 0},
		{"3 -1 4 5", 0, 2, 0},
		{"3 -1 4 5", 0, 3, 2}, // the sums 3 2 6 11
		{"3 -1 4 5", 0, 5, 2},
		{"3 -1 4 5", 0, 6, 3},
		{"3 -1 4 5", 0, 10, 3},
		{"3 -1 4 5", 0, 11, -1},
		{"3 -1 4 5", 0, 20000, -1},
		{"3 -1 4 5", 3, 0, 1}, // 0 -4 -3 -1
		{"3 -1 4 5", 3, 3, 1},
		{"3 -1 4 5", 3, 4, -1},
		{"3 -1 4 5", 500, 497, 1},
		{"3 -1 4 5", 500, 496, 0},
		{"3 -1 4 5", 500, 1988, 3},
		{"3 -1 4 5", 500, 1989, -1},
		{"3 -1 4 5", -500, 503, 1},
		{"3 -1 4 5", -500, 502, 0},
		{"3 -1 4 5", -500, 2010, 3},
		{"3 -1 4 5", -500, 2011, -1},
		// The limit itself, one more, its opposite, and one less.
		{"5", 0, 5, -1},
		{"6", 0, 5, 0},
		{"-5", 0, 5, -1},
		{"-6", 0, 5, 0},
		{"0", 0, 0, -1},
		{"1", 0, 0, 0},
		{"-1", 0, 0, 0},
		{"5 1", 0, 5, 1},
		{"-5 -1", 0, 5, 1},
		{"5 -5 -5 -1 7", 0, 5, 3},
		{"5 -10 10 -10 11", 0, 5, 4},
		{"0 0 0", 0, 0, -1},
		{"7 7 7", 7, 0, -1},
		{"7 7 8", 7, 0, 2},
		{"7 6 7", 7, 0, 1},
		{"500 500", 0, 500, 1},
		{"-500 -500", 0, 500, 1},
		{"500 -500", 0, 500, -1},
	}
	for _, c := range cases {
		i, ok := impl.FirstAlarm(readTrial(c.trial), c.aim, c.limit)
		if i != max(c.want, 0) || ok != (c.want >= 0) {
			t.Errorf("first alarm of %s with %d, %d: %d %v, want %d", c.trial, c.aim, c.limit, i, ok, c.want)
		}
	}
	high := counts(40, 500)
	for _, l := range [][]int{high, opposite(high)} {
		aim := -l[0]
		for limit, want := range map[int]int{20000: 20, 19999: 19, 19000: 19, 18999: 18, 1000: 1, 999: 0, 0: 0} {
			if i, ok := impl.FirstAlarm(l, aim, limit); i != want || !ok {
				t.Errorf("first alarm of %v with %d, %d: %d %v, want %d", l, aim, limit, i, ok, want)
			}
		}
		// The sum of all deviations is the greatest limit, or one more.
		if i, ok := impl.FirstAlarm(l, 0, 20000); i != 0 || ok {
			t.Errorf("first alarm of %v: %d %v", l, i, ok)
		}
		if i, ok := impl.FirstAlarm(l, 0, 19999); i != 39 || !ok {
			t.Errorf("first alarm of %v: %d %v", l, i, ok)
		}
		if i, ok := impl.FirstAlarm(l, aim/500, 20000); i != 39 || !ok {
			t.Errorf("first alarm of %v: %d %v", l, i, ok)
		}
	}
}

func TestWithoutOutsideFull(t *testing.T) {
	// From -20 to 19: with the tolerance 19 only the first one is outside.
	l := rising(40, -20, 1)
	for most := range 501 {
		want := l
		if most < 20 {
			want = rising(2*most+1, -most, 1)
		}
		if left, ok := impl.WithoutOutside(l, most); !slices.Equal(left, want) || !ok {
			t.Errorf("without those outside %d: %v %v", most, left, ok)
		}
	}
	for _, off := range []int{500, -500} {
		if left, ok := impl.WithoutOutside(counts(40, off), 499); len(left) != 0 || ok {
			t.Error("none left:", left, ok)
		}
		if left, ok := impl.WithoutOutside(counts(40, off), 500); !slices.Equal(left, counts(40, off)) || !ok {
			t.Error("all left:", left, ok)
		}
	}
}

func TestCorrectionFor(t *testing.T) {
	// Beyond the cases of all functions: the middle is a range, of which the number next to 0 is told.
	cases := []struct {
		trial string
		want  int
	}{
		{"2 6", -2},
		{"-6 -2", 2},
		{"-2 6", 0},
		{"0 6", 0},
		{"-6 0", 0},
		{"9 2 6 1", -2},
		{"-9 -2 -6 -1", 2},
		{"-9 3 5 9", -3},
		{"9 -3 -5 -9", 3},
		{"-9 -3 5 9", 0},
		{"1 1 9 9", -1},
		{"-1 -1 -9 -9", 1},
		{"-500 -500 499 500", 0},
		{"500 500 -500 500", -500},
		{"-500 -500 500 -500", 500},
		{"0 0 500 500 500", -500},
		{"0 0 0 500 500", 0},
		{"-500 -500 1 1 1", -1},
	}
	for _, c := range cases {
		if n, ok := impl.CorrectionFor(readTrial(c.trial)); n != c.want || !ok {
			t.Errorf("correction for %s: %d %v, want %d", c.trial, n, ok, c.want)
		}
	}
}

func TestJoinTrials(t *testing.T) {
	cases := []struct{ a, b, want string }{
		{"3 -1 4 5", "2 6", "3 -1 4 5 2 6"},
		{"2 6", "3 -1 4 5", "2 6 3 -1 4 5"},
		{"0", "0", "0 0"},
		{"-500", "500", "-500 500"},
		{"1", "1 2", "1 1 2"},
	}
	for _, c := range cases {
		if l, ok := impl.JoinTrials(readTrial(c.a), readTrial(c.b)); !slices.Equal(l, readTrial(c.want)) || !ok {
			t.Errorf("%s and %s: %v %v", c.a, c.b, l, ok)
		}
	}
	for i := 1; i <= 40; i++ {
		for j := 1; j <= 40; j++ {
			a, b := rising(i, -500, 1), rising(j, 500, -1)
			var want []int
			if i+j <= 40 {
				want = append(slices.Clone(a), b...)
			}
			if l, ok := impl.JoinTrials(a, b); !slices.Equal(l, want) || ok != (i+j <= 40) {
				t.Errorf("%d and %d deviations: %v %v", i, j, l, ok)
			}
		}
	}
}

// sizeOf returns a number without its sign.
func sizeOf(n int) int {
	if n < 0 {
		return -n
	}
	return n
}

// checkMean checks that the mean times the number of deviations is their sum, and that no number divides both sides of it.
func checkMean(t *testing.T, l []int) {
	t.Helper()
	sum := 0
	for _, off := range l {
		sum += off
	}
	a, b, ok := impl.MeanOff(l)
	if !ok || b < 1 || b > len(l) || a*len(l) != sum*b {
		t.Fatalf("mean of %v: %d/%d %v", l, a, b, ok)
	}
	for d := 2; d <= b; d++ {
		if a%d == 0 && b%d == 0 {
			t.Fatalf("mean of %v: %d/%d can be divided by %d", l, a, b, d)
		}
	}
}

// checkSpread checks that two deviations differ by the spread, and none by more.
func checkSpread(t *testing.T, l []int) {
	t.Helper()
	want := 0
	for _, a := range l {
		for _, b := range l {
			want = max(want, a-b)
		}
	}
	if spread, ok := impl.SpreadOff(l); spread != want || !ok {
		t.Fatalf("spread of %v: %d %v, want %d", l, spread, ok, want)
	}
}

// checkMedian checks that the deviations that are less than the median are fewer than half of all, and those that are not greater are at least half.
func checkMedian(t *testing.T, l []int) {
	t.Helper()
	median, ok := impl.MedianOff(l)
	less, equal := 0, 0
	for _, off := range l {
		if off < median {
			less++
		} else if off == median {
			equal++
		}
	}
	greater := len(l) - less - equal
	if !ok || equal == 0 || 2*less >= len(l) || 2*(less+equal) < len(l) || 2*greater > len(l) {
		t.Fatalf("median of %v: %d %v", l, median, ok)
	}
}

// isDrift reports whether deviations always become greater, or always less.
func isDrift(l []int) bool {
	up, down := true, true
	for i, off := range l {
		if i > 0 {
			up, down = up && off > l[i-1], down && off < l[i-1]
		}
	}
	return up || down
}

// checkDrift checks the longest drift against all parts. It returns whether another one is as long.
func checkDrift(t *testing.T, l []int) bool {
	t.Helper()
	first, length, ok := impl.LongestDrift(l)
	if !ok || first < 0 || length < 1 || first+length > len(l) || !isDrift(l[first:first+length]) {
		t.Fatalf("drift of %v: %d %d %v", l, first, length, ok)
	}
	several := false
	for i := range l {
		for j := i + 1; j <= len(l); j++ {
			if !isDrift(l[i:j]) {
				continue
			}
			if j-i > length || j-i == length && i < first {
				t.Fatalf("drift of %v: %d %d, but %d %d", l, first, length, i, j-i)
			}
			several = several || j-i == length && i > first
		}
	}
	return several
}

// checkCorrection checks that no number makes the sum of the absolute values less, and none nearer to 0 makes it as small. It returns whether several make it as small.
func checkCorrection(t *testing.T, l []int) bool {
	t.Helper()
	sumWith := func(n int) int {
		sum := 0
		for _, off := range l {
			sum += sizeOf(off + n)
		}
		return sum
	}
	correction, ok := impl.CorrectionFor(l)
	if !ok {
		t.Fatalf("no correction for %v", l)
	}
	least := sumWith(correction)
	several := false
	most := sizeOf(slices.MaxFunc(l, func(a, b int) int { return sizeOf(a) - sizeOf(b) })) + 3
	for n := -most; n <= most; n++ {
		sum := sumWith(n)
		if sum < least || sum == least && n != correction && sizeOf(n) <= sizeOf(correction) {
			t.Fatalf("correction for %v: %d, but %d", l, correction, n)
		}
		several = several || sum == least && n != correction
	}
	return several
}

// checkTolerance checks what is outside a tolerance, and what is left. It returns how many are outside.
func checkTolerance(t *testing.T, l []int, most int) int {
	t.Helper()
	var outside, left []int
	for i, off := range l {
		if off > most || off < -most {
			outside = append(outside, i)
		} else {
			left = append(left, off)
		}
	}
	if x, ok := impl.OutsideOff(l, most); !slices.Equal(x, outside) || !ok {
		t.Fatalf("%v outside %d: %v %v, want %v", l, most, x, ok, outside)
	}
	if x, ok := impl.WithoutOutside(l, most); !slices.Equal(x, left) || ok != (len(left) > 0) {
		t.Fatalf("%v without those outside %d: %v %v, want %v", l, most, x, ok, left)
	}
	return len(outside)
}

// checkAcceptance checks that a trial is accepted just if no more than the allowed ones are outside, and with the least tolerance and none that is less.
func checkAcceptance(t *testing.T, l []int, most, allowed int) {
	t.Helper()
	outside := checkTolerance(t, l, most)
	if is, ok := impl.IsAccepted(l, most, allowed); is != (outside <= allowed) || !ok {
		t.Fatalf("%v is accepted with %d, %d: %v %v", l, most, allowed, is, ok)
	}
	least, ok := impl.LeastTolerance(l, allowed)
	if !ok || least < 0 || least > 500 || checkTolerance(t, l, least) > allowed {
		t.Fatalf("least tolerance of %v with %d: %d %v", l, allowed, least, ok)
	}
	if least > 0 && checkTolerance(t, l, least-1) <= allowed {
		t.Fatalf("least tolerance of %v with %d: %d, but one less is enough", l, allowed, least)
	}
}

// checkSums checks that each sum is greater than the one before by the deviation less the aim, and which one is the first beyond a limit. It returns whether there is one.
func checkSums(t *testing.T, l []int, aim, limit int) bool {
	t.Helper()
	sums, ok := impl.SumsOff(l, aim)
	if !ok || len(sums) != len(l) {
		t.Fatalf("sums of %v with %d: %v %v", l, aim, sums, ok)
	}
	before, first := 0, -1
	for i, sum := range sums {
		if sum != before+l[i]-aim {
			t.Fatalf("sums of %v with %d: %v", l, aim, sums)
		}
		if first < 0 && (sum > limit || sum < -limit) {
			first = i
		}
		before = sum
	}
	if i, ok := impl.FirstAlarm(l, aim, limit); i != max(first, 0) || ok != (first >= 0) {
		t.Fatalf("first alarm of %v with %d, %d: %d %v, want %d", l, aim, limit, i, ok, first)
	}
	return first >= 0
}

// checkTrial checks all results that a trial has without other arguments. It returns whether several drifts are longest, and whether several corrections are as good.
func checkTrial(t *testing.T, l []int) (bool, bool) {
	t.Helper()
	checkMean(t, l)
	checkSpread(t, l)
	checkMedian(t, l)
	return checkDrift(t, l), checkCorrection(t, l)
}

// TestSmallTrials checks all trials of at most 6 deviations in -2..2.
func TestSmallTrials(t *testing.T) {
	lists := [][]int{nil}
	for range 6 {
		var longer [][]int
		for _, l := range lists {
			for off := -2; off <= 2; off++ {
				longer = append(longer, append(slices.Clone(l), off))
			}
		}
		lists = longer
		for k, l := range lists {
			checkTrial(t, l)
			checkAcceptance(t, l, k%4, k%(len(l)+2))
			checkSums(t, l, k%5-2, k%7)
		}
	}
}

// randomTrial returns a trial whose deviations are any, few different ones, near the bounds, or mostly drift.
func randomTrial(r *rand.Rand) []int {
	l := make([]int, 1+r.Intn(40))
	if r.Intn(4) == 0 {
		l = make([]int, 39+r.Intn(2))
	}
	kind := r.Intn(4)
	step := 1 - 2*r.Intn(2)
	for i := range l {
		switch kind {
		case 0:
			l[i] = r.Intn(1001) - 500
		case 1:
			l[i] = r.Intn(5) - 2
		case 2:
			l[i] = (500 - r.Intn(3)) * (1 - 2*r.Intn(2))
		default:
			if r.Intn(6) == 0 {
				step = r.Intn(3) - 1
			}
			if i > 0 {
				l[i] = l[i-1] + step*(1+r.Intn(5))
			}
		}
	}
	if r.Intn(3) == 0 {
		return shifted(l, r.Intn(1001)-500)
	}
	return l
}

// shifted returns a list with a number added to all, as far as the bounds allow it.
func shifted(l []int, by int) []int {
	s := make([]int, len(l))
	for i, n := range l {
		s[i] = min(max(n+by, -500), 500)
	}
	return s
}

func TestRandomTrials(t *testing.T) {
	r := rand.New(rand.NewSource(51))
	drifts, corrections, alarms, noAlarms := 0, 0, 0, 0
	for range 3000 {
		l := randomTrial(r)
		several, severalCorrections := checkTrial(t, l)
		if several {
			drifts++
		}
		if severalCorrections {
			corrections++
		}
		// Tolerances are often those of a deviation, or one less.
		size := sizeOf(l[r.Intn(len(l))])
		for _, most := range []int{r.Intn(501), size, max(size-1, 0)} {
			checkAcceptance(t, l, most, r.Intn(41))
			checkAcceptance(t, l, most, r.Intn(len(l)+1))
		}
		for _, limit := range []int{r.Intn(20001), r.Intn(1000), r.Intn(20)} {
			if checkSums(t, l, r.Intn(1001)-500, limit) || checkSums(t, l, r.Intn(7)-3, limit) {
				alarms++
			} else {
				noAlarms++
			}
		}
	}
	if min(drifts, corrections, alarms, noAlarms) < 300 {
		t.Error("too few:", drifts, corrections, alarms, noAlarms)
	}
}

// TestRandomAlarms takes a sum itself, and one less, as the limit.
func TestRandomAlarms(t *testing.T) {
	r := rand.New(rand.NewSource(52))
	for range 3000 {
		l, aim := randomTrial(r), r.Intn(1001)-500
		sums, _ := impl.SumsOff(l, aim)
		size := sizeOf(sums[r.Intn(len(sums))])
		for _, limit := range []int{size, size - 1, size + 1} {
			if limit >= 0 && limit <= 20000 {
				checkSums(t, l, aim, limit)
			}
		}
	}
}

// TestOppositeTrials checks that all signs changed change the signs of what is told, but not what has no sign.
func TestOppositeTrials(t *testing.T) {
	r := rand.New(rand.NewSource(53))
	for range 2000 {
		l := randomTrial(r)
		o := opposite(l)
		a, b, _ := impl.MeanOff(l)
		oa, ob, _ := impl.MeanOff(o)
		correction, _ := impl.CorrectionFor(l)
		oc, _ := impl.CorrectionFor(o)
		first, length, _ := impl.LongestDrift(l)
		of, ol, _ := impl.LongestDrift(o)
		if oa != -a || ob != b || oc != -correction || of != first || ol != length {
			t.Fatalf("%v: mean %d/%d and %d/%d, correction %d and %d, drift %d %d and %d %d", l, a, b, oa, ob, correction, oc, first, length, of, ol)
		}
		// Only the median may be another one: the greater one of two in the middle.
		sorted := slices.Sorted(slices.Values(l))
		median, _ := impl.MedianOff(l)
		om, _ := impl.MedianOff(o)
		if median != sorted[(len(l)-1)/2] || -om != sorted[len(l)/2] {
			t.Fatalf("%v: medians %d and %d", l, median, om)
		}
	}
}

// refuseTrial checks that no function takes the list.
func refuseTrial(t *testing.T, l []int) {
	t.Helper()
	if a, b, ok := impl.MeanOff(l); a != 0 || b != 0 || ok {
		t.Errorf("mean of %.100v: %d/%d %v", l, a, b, ok)
	}
	if n, ok := impl.SpreadOff(l); n != 0 || ok {
		t.Errorf("spread of %.100v: %d %v", l, n, ok)
	}
	if n, ok := impl.MedianOff(l); n != 0 || ok {
		t.Errorf("median of %.100v: %d %v", l, n, ok)
	}
	if first, length, ok := impl.LongestDrift(l); first != 0 || length != 0 || ok {
		t.Errorf("drift of %.100v: %d %d %v", l, first, length, ok)
	}
	if n, ok := impl.CorrectionFor(l); n != 0 || ok {
		t.Errorf("correction for %.100v: %d %v", l, n, ok)
	}
}

func refuseTolerance(t *testing.T, l []int, most int) {
	t.Helper()
	if x, ok := impl.OutsideOff(l, most); len(x) != 0 || ok {
		t.Errorf("%.100v outside %d: %v %v", l, most, x, ok)
	}
	if x, ok := impl.WithoutOutside(l, most); len(x) != 0 || ok {
		t.Errorf("%.100v without those outside %d: %v %v", l, most, x, ok)
	}
}

func refuseAcceptance(t *testing.T, l []int, most, allowed int) {
	t.Helper()
	if is, ok := impl.IsAccepted(l, most, allowed); is || ok {
		t.Errorf("%.100v is accepted with %d, %d: %v %v", l, most, allowed, is, ok)
	}
}

func refuseAllowed(t *testing.T, l []int, allowed int) {
	t.Helper()
	if n, ok := impl.LeastTolerance(l, allowed); n != 0 || ok {
		t.Errorf("least tolerance of %.100v with %d: %d %v", l, allowed, n, ok)
	}
}

func refuseAim(t *testing.T, l []int, aim int) {
	t.Helper()
	if x, ok := impl.SumsOff(l, aim); len(x) != 0 || ok {
		t.Errorf("sums of %.100v with %d: %v %v", l, aim, x, ok)
	}
}

func refuseAlarm(t *testing.T, l []int, aim, limit int) {
	t.Helper()
	if i, ok := impl.FirstAlarm(l, aim, limit); i != 0 || ok {
		t.Errorf("first alarm of %.100v with %d, %d: %d %v", l, aim, limit, i, ok)
	}
}

func refuseJoin(t *testing.T, a, b []int) {
	t.Helper()
	if l, ok := impl.JoinTrials(a, b); len(l) != 0 || ok {
		t.Errorf("%.100v and %.100v: %v %v", a, b, l, ok)
	}
}

func TestInvalidTrials(t *testing.T) {
	for _, l := range invalidTrials() {
		refuseTrial(t, l)
		for _, most := range slices.Concat(validOffTolerances, invalidOffTolerances) {
			refuseTolerance(t, l, most)
			for _, allowed := range slices.Concat(validAllowed, invalidAllowed) {
				refuseAcceptance(t, l, most, allowed)
			}
		}
		for _, allowed := range slices.Concat(validAllowed, invalidAllowed) {
			refuseAllowed(t, l, allowed)
		}
		for _, aim := range slices.Concat(validAims, invalidAims) {
			refuseAim(t, l, aim)
			for _, limit := range slices.Concat(validLimits, invalidLimits) {
				refuseAlarm(t, l, aim, limit)
			}
		}
		for _, other := range slices.Concat(validTrials(), invalidTrials()) {
			refuseJoin(t, l, other)
			refuseJoin(t, other, l)
		}
	}
}

func TestInvalidGaugeNumbers(t *testing.T) {
	for _, l := range validTrials() {
		for _, most := range invalidOffTolerances {
			refuseTolerance(t, l, most)
			for _, allowed := range slices.Concat(validAllowed, invalidAllowed) {
				refuseAcceptance(t, l, most, allowed)
			}
		}
		for _, allowed := range invalidAllowed {
			refuseAllowed(t, l, allowed)
			for _, most := range validOffTolerances {
				refuseAcceptance(t, l, most, allowed)
			}
		}
		for _, aim := range invalidAims {
			refuseAim(t, l, aim)
			for _, limit := range slices.Concat(validLimits, invalidLimits) {
				refuseAlarm(t, l, aim, limit)
			}
		}
		for _, limit := range invalidLimits {
			for _, aim := range validAims {
				refuseAlarm(t, l, aim, limit)
			}
		}
	}
}

// TestGaugeBounds goes over all numbers around the bounds.
func TestGaugeBounds(t *testing.T) {
	l := exampleTrial()
	for n := -510; n <= 510; n++ {
		isTolerance, isAim := n >= 0 && n <= 500, n >= -500 && n <= 500
		_, one := impl.OutsideOff(l, n)
		_, two := impl.IsAccepted(l, n, 4)
		_, three := impl.WithoutOutside([]int{0, 1}, n)
		if one != isTolerance || two != isTolerance || three != isTolerance {
			t.Error("tolerance", n, one, two, three)
		}
		_, one = impl.SumsOff(l, n)
		_, two = impl.FirstAlarm(l, n, 0)
		if one != isAim || two != isAim {
			t.Error("aim", n, one, two)
		}
		isAllowed := n >= 0 && n <= 40
		_, one = impl.LeastTolerance(l, n)
		_, two = impl.IsAccepted(l, 500, n)
		if one != isAllowed || two != isAllowed {
			t.Error("allowed", n, one, two)
		}
	}
	high := counts(40, 500)
	for limit := -10; limit <= 20010; limit++ {
		if _, ok := impl.FirstAlarm(high, -500, limit); ok != (limit >= 0 && limit <= 20000) {
			t.Error("limit", limit, ok)
		}
	}
}

// gaugeResults are the results of all functions on trials, each with its success.
type gaugeResults struct {
	isTrial, isAccepted          bool
	numbers                      [9]int
	done                         [12]bool
	outside, sums, without, join []int
}

func gaugeResultsOf(l, other []int, most, allowed, aim, limit int) (g gaugeResults) {
	g.isTrial = impl.IsTrial(l)
	g.numbers[0], g.numbers[1], g.done[0] = impl.MeanOff(l)
	g.numbers[2], g.done[1] = impl.SpreadOff(l)
	g.numbers[3], g.done[2] = impl.MedianOff(l)
	g.outside, g.done[3] = impl.OutsideOff(l, most)
	g.isAccepted, g.done[4] = impl.IsAccepted(l, most, allowed)
	g.numbers[4], g.done[5] = impl.LeastTolerance(l, allowed)
	g.numbers[5], g.numbers[6], g.done[6] = impl.LongestDrift(l)
	g.sums, g.done[7] = impl.SumsOff(l, aim)
	g.numbers[7], g.done[8] = impl.FirstAlarm(l, aim, limit)
	g.without, g.done[9] = impl.WithoutOutside(l, most)
	g.numbers[8], g.done[10] = impl.CorrectionFor(l)
	g.join, g.done[11] = impl.JoinTrials(l, other)
	return g
}

func (g gaugeResults) lists() [][]int { return [][]int{g.outside, g.sums, g.without, g.join} }

// sameGaugeResults compares results; their lists are overwritten.
func sameGaugeResults(a, b gaugeResults) bool {
	same := slices.EqualFunc(a.lists(), b.lists(), slices.Equal[[]int])
	for _, l := range append(a.lists(), b.lists()...) {
		overwrite(l, true)
	}
	return same && a.isTrial == b.isTrial && a.isAccepted == b.isAccepted && a.numbers == b.numbers && a.done == b.done
}

// checkTrialsStay calls the functions with lists that have spare capacity, of which they must neither take nor change anything, and overwrites the results.
func checkTrialsStay(t *testing.T, given, joined []int, spare, most, allowed, aim, limit int) {
	t.Helper()
	l, trialStays := guarded(t, "trial", given, spare)
	other, otherStays := guarded(t, "other trial", joined, spare)
	plain := gaugeResultsOf(slices.Clip(slices.Clone(given)), slices.Clip(slices.Clone(joined)), most, allowed, aim, limit)
	g := gaugeResultsOf(l, other, most, allowed, aim, limit)
	for i, x := range g.lists() {
		if shareMemory(x, l) || shareMemory(x, other) {
			t.Errorf("%.100v, %.100v: a result shares memory with an argument", given, joined)
		}
		for _, y := range g.lists()[:i] {
			if shareMemory(x, y) {
				t.Errorf("%.100v, %.100v: results share memory", given, joined)
			}
		}
	}
	if !sameGaugeResults(g, plain) {
		t.Errorf("%.100v, %.100v: %v, without spare capacity %v", given, joined, g, plain)
	}
	trialStays()
	otherStays()
}

func TestTrialsStay(t *testing.T) {
	others := [][]int{{1}, {3, -1, 4, 5}, rising(30, -500, 1), nil, {501}}
	for _, given := range slices.Concat(validTrials(), invalidTrials()) {
		for k, joined := range others {
			for _, spare := range []int{0, 500, -500, 501} {
				checkTrialsStay(t, given, joined, spare, []int{500, 0, 3, 501, -1}[k], []int{0, 1, 40, 41, -1}[k], []int{0, 500, -500, 501, 1}[k], []int{0, 20000, 7, -1, 20001}[k])
			}
		}
	}
	// Nothing is outside, so that what is left is the whole trial, and still no part of the argument.
	l := exampleTrial()
	left, _ := impl.WithoutOutside(l, 500)
	joined, _ := impl.JoinTrials(l, l)
	overwrite(left, true)
	overwrite(joined, true)
	if !slices.Equal(l, exampleTrial()) {
		t.Error("an argument was changed:", l)
	}
}

// TestTrialJoinedToItself gives one list as both arguments, or one that lies in the spare capacity of the other.
func TestTrialJoinedToItself(t *testing.T) {
	whole := []int{3, -1, 4, 5, 9, 8}
	if l, ok := impl.JoinTrials(whole[:4], whole[:4]); !slices.Equal(l, []int{3, -1, 4, 5, 3, -1, 4, 5}) || !ok || shareMemory(l, whole) {
		t.Error(l, ok)
	}
	if l, ok := impl.JoinTrials(whole[:4], whole[4:]); !slices.Equal(l, whole) || !ok || shareMemory(l, whole) {
		t.Error(l, ok)
	}
	if l, ok := impl.JoinTrials(whole[:2], whole[4:]); !slices.Equal(l, []int{3, -1, 9, 8}) || !ok || shareMemory(l, whole) {
		t.Error(l, ok)
	}
	if !slices.Equal(whole, []int{3, -1, 4, 5, 9, 8}) {
		t.Error("the arguments were changed:", whole)
	}
}

// TestGaugeResultsAreNew checks that the same call gives the same result when an earlier one has been overwritten.
func TestGaugeResultsAreNew(t *testing.T) {
	l := exampleTrial()
	for range 2 {
		g := gaugeResultsOf(l, []int{7}, 3, 1, 1, 5)
		if !slices.EqualFunc(g.lists(), [][]int{{2, 3}, {2, 0, 3, 7}, {3, -1}, {3, -1, 4, 5, 7}}, slices.Equal[[]int]) {
			t.Error(g.lists())
		}
		for _, x := range g.lists() {
			overwrite(x, true)
		}
		if !slices.Equal(l, exampleTrial()) {
			t.Fatal("an argument was changed:", l)
		}
	}
}
