package tests

import (
	"math/rand"
	"slices"
	"testing"
)

// guarded returns a copy of a list with spare capacity behind it, and a check that neither the list nor the spare part has changed since.
func guarded[T comparable](t *testing.T, name string, list []T, spare T) ([]T, func()) {
	t.Helper()
	whole := append(slices.Clone(list), spare, spare, spare)
	before := slices.Clone(whole)
	return whole[:len(list)], func() {
		t.Helper()
		if !slices.Equal(whole, before) {
			t.Errorf("%s: the argument was changed from %v to %v", name, before, whole)
		}
	}
}

// shareMemory reports whether two lists have an element in common, in the part behind their lengths too.
func shareMemory[T any](a, b []T) bool {
	a, b = a[:cap(a)], b[:cap(b)]
	for i := range a {
		for j := range b {
			if &a[i] == &b[j] {
				return true
			}
		}
	}
	return false
}

// changedText replaces, inserts or deletes a few bytes of a text that is not empty.
func changedText(r *rand.Rand, text, with string) string {
	changed := []byte(text)
	for range 1 + r.Intn(3) {
		at := r.Intn(len(changed))
		switch b := with[r.Intn(len(with))]; r.Intn(3) {
		case 0:
			changed[at] = b
		case 1:
			changed = slices.Insert(changed, at, b)
		case 2:
			changed = slices.Delete(changed, at, at+1)
		}
		if len(changed) == 0 {
			return ""
		}
	}
	return string(changed)
}
