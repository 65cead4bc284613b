package concept

import (
	"slices"
	"testing"

	"syllogist/api"
)

// The functions of this file follow the document's words alone, and share no code with the program.

func has(set uint32, element int) bool { return set>>element&1 == 1 }

func wantUp(n int, rows []uint32, objects uint32) uint32 {
	marks := uint32(0)
	for mark := range n {
		missing := false
		for object := range rows {
			missing = missing || has(objects, object) && !has(rows[object], mark)
		}
		if !missing {
			marks += 1 << mark
		}
	}
	return marks
}

func wantDown(n int, rows []uint32, marks uint32) uint32 {
	objects := uint32(0)
	for object := range rows {
		missing := false
		for mark := range n {
			missing = missing || has(marks, mark) && !has(rows[object], mark)
		}
		if !missing {
			objects += 1 << object
		}
	}
	return objects
}

// wantAll tries all pairs of a set of objects and a set of attributes.
func wantAll(n int, rows []uint32) []api.Concept {
	var ups, downs []uint32
	for objects := range uint32(1) << len(rows) {
		ups = append(ups, wantUp(n, rows, objects))
	}
	for marks := range uint32(1) << n {
		downs = append(downs, wantDown(n, rows, marks))
	}
	var concepts []api.Concept
	for marks := range uint32(1) << n {
		for objects := range uint32(1) << len(rows) {
			if ups[objects] == marks && downs[marks] == objects {
				concepts = append(concepts, api.Concept{Objects: objects, Marks: marks})
			}
		}
	}
	return concepts
}

// isAfter tells whether a comes after b in the lectic order.
func isAfter(a, b uint32) bool {
	for element := range 32 {
		if has(a, element) != has(b, element) {
			return has(a, element)
		}
	}
	return false
}

// wantNext takes, of the sets that come after marks, the one that comes after no other.
func wantNext(concepts []api.Concept, marks uint32) (uint32, api.Errno) {
	best, e := uint32(0), api.ErrNone
	for _, c := range concepts {
		if isAfter(c.Marks, marks) && (e == api.ErrNone || isAfter(best, c.Marks)) {
			best, e = c.Marks, api.OK
		}
	}
	return best, e
}

func wantSays(n int, rows []uint32, r api.Rule) bool {
	for _, row := range rows {
		hasIf, hasThen := true, true
		for mark := range n {
			hasIf = hasIf && (has(row, mark) || !has(r.If, mark))
			hasThen = hasThen && (has(row, mark) || !has(r.Then, mark))
		}
		if hasIf && !hasThen {
			return false
		}
	}
	return true
}

func compare(t *testing.T, n int, rows []uint32) {
	t.Helper()
	for objects := range uint32(1) << len(rows) {
		want := wantUp(n, rows, objects)
		if got, e := Up(n, rows, objects); e != api.OK || got != want {
			t.Fatalf("Up(%d, %v, %d) = %d, %d, want %d", n, rows, objects, got, e, want)
		}
	}
	concepts := wantAll(n, rows)
	if got, e := All(n, rows); e != api.OK || !slices.Equal(got, concepts) {
		t.Fatalf("All(%d, %v) = %v, %d, want %v", n, rows, got, e, concepts)
	}
	for marks := range uint32(1) << n {
		want := wantDown(n, rows, marks)
		if got, e := Down(n, rows, marks); e != api.OK || got != want {
			t.Fatalf("Down(%d, %v, %d) = %d, %d, want %d", n, rows, marks, got, e, want)
		}
		want, wantErr := wantNext(concepts, marks)
		if got, e := Next(n, rows, marks); e != wantErr || got != want {
			t.Fatalf("Next(%d, %v, %d) = %d, %d, want %d, %d", n, rows, marks, got, e, want, wantErr)
		}
	}
}

func compareSays(t *testing.T, n int, rows []uint32, r api.Rule) {
	t.Helper()
	want := wantSays(n, rows, r)
	if got, e := Says(n, rows, r); e != api.OK || got != want {
		t.Fatalf("Says(%d, %v, %v) = %t, %d, want %t", n, rows, r, got, e, want)
	}
}

// TestSmallContexts goes through all contexts of up to four objects and two attributes, and of up to three of both,
// with every implication.
func TestSmallContexts(t *testing.T) {
	for n := 1; n <= 3; n++ {
		most := []int{1: 4, 2: 4, 3: 3}[n]
		contexts := [][]uint32{nil}
		for from := 0; len(contexts[from]) < most; from++ {
			for row := range uint32(1) << n {
				contexts = append(contexts, append(slices.Clone(contexts[from]), row))
			}
		}
		for _, rows := range contexts {
			compare(t, n, rows)
			for word := range uint32(1) << (2 * n) {
				compareSays(t, n, rows, api.Rule{If: word >> n, Then: word & (1<<n - 1)})
			}
		}
	}
}

// TestManyContexts mixes the numbers of a fixed sequence into contexts of every size.
func TestManyContexts(t *testing.T) {
	state := uint32(2718281)
	next := func(n int) uint32 {
		state = state*1664525 + 1013904223
		return state >> (32 - n)
	}
	for round := range 5400 {
		n := 1 + round%api.MaxPart
		rows := make([]uint32, round/api.MaxPart%(api.MaxObj+1))
		for i := range rows {
			rows[i] = next(n)
			// Objects with nearly all attributes have many concepts, objects with few have many implications.
			switch round / 7 % 3 {
			case 0:
				rows[i] |= next(n) | next(n)
			case 1:
				rows[i] &= next(n)
			}
		}
		compare(t, n, rows)
		for range 20 {
			compareSays(t, n, rows, api.Rule{If: next(n) & next(n), Then: next(n) & next(n)})
		}
	}
}
