package label

import (
	"slices"
	"testing"

	"syllogist/api"
)

// The functions of this file follow the document's words alone, and share no code with the program.

// allLabels lists all labels by their levels, and those of one level by their words.
func allLabels() []api.Label {
	var list []api.Label
	for level := 0; level <= api.MaxLevel; level++ {
		for parts := range uint32(1 << api.MaxWords) {
			list = append(list, api.Label{Level: level, Parts: parts})
		}
	}
	return list
}

// categories lists the categories of a label.
func categories(a api.Label) []int {
	var list []int
	for category := range api.MaxWords {
		if a.Parts>>category&1 == 1 {
			list = append(list, category)
		}
	}
	return list
}

func wantUnder(a, b api.Label) bool {
	all := categories(b)
	for _, category := range categories(a) {
		if !slices.Contains(all, category) {
			return false
		}
	}
	return !(a.Level > b.Level)
}

// choose returns the label of that level whose categories are those that are in some, or in both, of two labels.
func choose(a, b api.Label, level int, both bool) api.Label {
	first, second := categories(a), categories(b)
	chosen := api.Label{Level: level}
	for category := range api.MaxWords {
		one, other := slices.Contains(first, category), slices.Contains(second, category)
		if both && one && other || !both && (one || other) {
			chosen.Parts += 1 << category
		}
	}
	return chosen
}

func wantPair(a, b api.Label) pair {
	smaller, greater := a.Level, b.Level
	if smaller > greater {
		smaller, greater = greater, smaller
	}
	return pair{under: wantUnder(a, b), join: choose(a, b, greater, false), meet: choose(a, b, smaller, true)}
}

func TestAllPairsOfLabels(t *testing.T) {
	all := allLabels()
	for _, a := range all {
		for _, b := range all {
			for range 2 {
				if got, want := callPair(a, b), wantPair(a, b); got != want {
					t.Fatalf("%v and %v: %+v, want %+v", a, b, got, want)
				}
			}
		}
	}
}

func TestAllNumbers(t *testing.T) {
	all := allLabels()
	if len(all) != 128 {
		t.Fatalf("there are %d labels", len(all))
	}
	for want, a := range all {
		if e := Check(a); e != api.OK {
			t.Errorf("Check(%v) = %d", a, e)
		}
		if k, e := Number(a); k != want || k != 32*a.Level+int(a.Parts) || e != api.OK {
			t.Errorf("Number(%v) = %d %d, want %d", a, k, e, want)
		}
	}
	for k := -1000; k <= 1000; k++ {
		want, err := api.Label{}, api.ErrNone
		if k >= 0 && k < len(all) {
			want, err = all[k], api.OK
		}
		if a, e := Label(k); a != want || e != err {
			t.Errorf("Label(%d) = %v %d, want %v %d", k, a, e, want, err)
		}
	}
}

// TestChecks goes through all levels and words of a range beyond the valid ones.
func TestChecks(t *testing.T) {
	for level := -40; level <= 40; level++ {
		for parts := range uint32(1 << 10) {
			want := api.OK
			if level < 0 || level > 3 || parts > 31 {
				want = api.ErrRange
			}
			if e := Check(api.Label{Level: level, Parts: parts}); e != want {
				t.Fatalf("level %d, categories %d: %d, want %d", level, parts, e, want)
			}
		}
	}
}

// TestExtremeLabels holds joins and meets against all labels that are above, or below, both of two labels.
func TestExtremeLabels(t *testing.T) {
	all := allLabels()
	for _, a := range all {
		for _, b := range all {
			join, _ := Join(a, b)
			meet, _ := Meet(a, b)
			for _, c := range all {
				if above := wantUnder(a, c) && wantUnder(b, c); above != wantUnder(join, c) {
					t.Fatalf("%v is not the join of %v and %v beside %v", join, a, b, c)
				}
				if below := wantUnder(c, a) && wantUnder(c, b); below != wantUnder(c, meet) {
					t.Fatalf("%v is not the meet of %v and %v beside %v", meet, a, b, c)
				}
			}
		}
	}
}
