package label

import (
	"math"
	"testing"

	"syllogist/api"
)

// pair holds what the functions of two labels return.
type pair struct {
	under      bool
	join, meet api.Label
	errs       [3]api.Errno
}

func callPair(a, b api.Label) pair {
	var got pair
	got.under, got.errs[0] = Under(a, b)
	got.join, got.errs[1] = Join(a, b)
	got.meet, got.errs[2] = Meet(a, b)
	return got
}

// wrongLabels lists labels that are invalid, by their levels, by their categories, or by both.
func wrongLabels() []api.Label {
	levels := []int{math.MinInt, math.MinInt + 1, -256, -32, -4, -2, -1, api.MaxLevel + 1, 5, 32, 128, 256, 257, 65536, math.MaxInt - 1, math.MaxInt}
	parts := []uint32{33, 63, 64 | 31, 1<<31 | 1, 1<<31 - 1, math.MaxUint32 - 31, math.MaxUint32 - 1, math.MaxUint32}
	for bit := api.MaxWords; bit < 32; bit++ {
		parts = append(parts, 1<<bit)
	}
	var list []api.Label
	for _, level := range levels {
		for _, set := range []uint32{0, 1, 16, 31} {
			list = append(list, api.Label{Level: level, Parts: set})
		}
	}
	for _, set := range parts {
		for level := range api.MaxLevel + 1 {
			list = append(list, api.Label{Level: level, Parts: set})
		}
		list = append(list, api.Label{Level: -1, Parts: set}, api.Label{Level: api.MaxLevel + 1, Parts: set})
	}
	return list
}

func TestInvalidLabels(t *testing.T) {
	wrong := wrongLabels()
	for _, a := range wrong {
		if e := Check(a); e != api.ErrRange {
			t.Errorf("Check(%v) = %d", a, e)
		}
		if k, e := Number(a); k != 0 || e != api.ErrRange {
			t.Errorf("Number(%v) = %d %d", a, k, e)
		}
	}
	want := pair{errs: [3]api.Errno{api.ErrRange, api.ErrRange, api.ErrRange}}
	expect := func(a, b api.Label) {
		if got := callPair(a, b); got != want {
			t.Errorf("%v and %v: %+v", a, b, got)
		}
	}
	for _, a := range wrong {
		for _, b := range wrong {
			expect(a, b)
		}
		for _, b := range allLabels() {
			expect(a, b)
			expect(b, a)
		}
	}
}

func TestNumbersOfNoLabel(t *testing.T) {
	numbers := []int{
		math.MinInt, math.MinInt + 1, math.MinInt + 33, math.MinInt + 127, -65536, -129, -128, -127, -33, -32, -31, -1,
		128, 129, 159, 160, 255, 256, 257, 289, 65536, 65536 + 33, math.MaxInt - 127, math.MaxInt - 1, math.MaxInt,
	}
	for _, k := range numbers {
		if a, e := Label(k); a != (api.Label{}) || e != api.ErrNone {
			t.Errorf("Label(%d) = %v %d", k, a, e)
		}
	}
}

func TestPairsOfLabels(t *testing.T) {
	cases := []struct {
		name       string
		a, b       api.Label
		under      bool
		join, meet api.Label
	}{
		{"the least label twice", api.Label{}, api.Label{}, true, api.Label{}, api.Label{}},
		{"the greatest label twice", api.Label{Level: 3, Parts: 31}, api.Label{Level: 3, Parts: 31}, true, api.Label{Level: 3, Parts: 31}, api.Label{Level: 3, Parts: 31}},
		{"the least and the greatest", api.Label{}, api.Label{Level: 3, Parts: 31}, true, api.Label{Level: 3, Parts: 31}, api.Label{}},
		{"the greatest and the least", api.Label{Level: 3, Parts: 31}, api.Label{}, false, api.Label{Level: 3, Parts: 31}, api.Label{}},
		{"a greater level", api.Label{Level: 1, Parts: 5}, api.Label{Level: 2, Parts: 5}, true, api.Label{Level: 2, Parts: 5}, api.Label{Level: 1, Parts: 5}},
		{"a smaller level", api.Label{Level: 3}, api.Label{Level: 2}, false, api.Label{Level: 3}, api.Label{Level: 2}},
		{"more categories", api.Label{Level: 2, Parts: 17}, api.Label{Level: 2, Parts: 21}, true, api.Label{Level: 2, Parts: 21}, api.Label{Level: 2, Parts: 17}},
		{"fewer categories", api.Label{Parts: 3}, api.Label{Parts: 2}, false, api.Label{Parts: 3}, api.Label{Parts: 2}},
		{"a greater level and other categories", api.Label{Level: 1, Parts: 1}, api.Label{Level: 2, Parts: 2}, false, api.Label{Level: 2, Parts: 3}, api.Label{Level: 1}},
		{"a greater level and fewer categories", api.Label{Level: 0, Parts: 16}, api.Label{Level: 3, Parts: 0}, false, api.Label{Level: 3, Parts: 16}, api.Label{}},
		{"a smaller level and more categories", api.Label{Level: 2, Parts: 4}, api.Label{Level: 1, Parts: 12}, false, api.Label{Level: 2, Parts: 12}, api.Label{Level: 1, Parts: 4}},
		{"categories in common", api.Label{Level: 1, Parts: 6}, api.Label{Level: 1, Parts: 12}, false, api.Label{Level: 1, Parts: 14}, api.Label{Level: 1, Parts: 4}},
		{"a smaller word that is not included", api.Label{Level: 1, Parts: 1}, api.Label{Level: 1, Parts: 16}, false, api.Label{Level: 1, Parts: 17}, api.Label{Level: 1}},
	}
	for _, c := range cases {
		if got, want := callPair(c.a, c.b), (pair{under: c.under, join: c.join, meet: c.meet}); got != want {
			t.Errorf("%s: %+v, want %+v", c.name, got, want)
		}
	}
}

func TestNumbers(t *testing.T) {
	cases := []struct {
		k int
		a api.Label
	}{
		{0, api.Label{}},
		{1, api.Label{Parts: 1}},
		{16, api.Label{Parts: 16}},
		{31, api.Label{Parts: 31}},
		{32, api.Label{Level: 1}},
		{33, api.Label{Level: 1, Parts: 1}},
		{63, api.Label{Level: 1, Parts: 31}},
		{64, api.Label{Level: 2}},
		{74, api.Label{Level: 2, Parts: 10}},
		{96, api.Label{Level: 3}},
		{127, api.Label{Level: 3, Parts: 31}},
	}
	for _, c := range cases {
		if a, e := Label(c.k); a != c.a || e != api.OK {
			t.Errorf("Label(%d) = %v %d, want %v", c.k, a, e, c.a)
		}
		if k, e := Number(c.a); k != c.k || e != api.OK {
			t.Errorf("Number(%v) = %d %d, want %d", c.a, k, e, c.k)
		}
		if e := Check(c.a); e != api.OK {
			t.Errorf("Check(%v) = %d", c.a, e)
		}
	}
}
