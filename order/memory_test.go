package order

import (
	"reflect"
	"slices"
	"testing"

	"syllogist/api"
)

func TestArgumentsAreKept(t *testing.T) {
	backing := [][2]int{{2, 0}, {0, 1}, {4, 3}, {1, 0}, {99, 99}}
	before := slices.Clone(backing)
	want := callAll(5, [][2]int{{2, 0}, {0, 1}, {4, 3}})
	// What lies beyond the length would make a cycle and a wrong thing.
	if got := callAll(5, backing[:3]); !got.hasErr(api.OK) || !reflect.DeepEqual(got, want) {
		t.Errorf("%+v, want %+v", got, want)
	}
	if !slices.Equal(backing, before) {
		t.Errorf("changed to %v", backing)
	}
}

func TestNilIsEmpty(t *testing.T) {
	for n := 1; n <= api.MaxPart; n++ {
		if a, b := callAll(n, nil), callAll(n, [][2]int{}); !reflect.DeepEqual(a, b) {
			t.Errorf("%+v and %+v", a, b)
		}
	}
}

// fill writes over every list of a result, up to its capacity.
func (r result) fill() {
	clear(r.table[:cap(r.table)])
	clear(r.covers[:cap(r.covers)])
	clear(r.line[:cap(r.line)])
	clear(r.chain[:cap(r.chain)])
	for _, chain := range r.split {
		clear(chain[:cap(chain)])
	}
	clear(r.split[:cap(r.split)])
}

func TestResultsAreNew(t *testing.T) {
	pairs := [][2]int{{2, 0}, {0, 1}, {4, 3}}
	first, second := callAll(5, pairs), callAll(5, pairs)
	first.fill()
	if third := callAll(5, pairs); !reflect.DeepEqual(second, third) {
		t.Errorf("%+v, then %+v", second, third)
	}
	if !slices.Equal(pairs, [][2]int{{2, 0}, {0, 1}, {4, 3}}) {
		t.Errorf("changed to %v", pairs)
	}
}

func TestChainsShareNothing(t *testing.T) {
	chains, _ := Split(6, [][2]int{{0, 1}, {2, 3}, {4, 5}})
	for i := range chains {
		others := make([][]int, len(chains))
		for j := range chains {
			others[j] = slices.Clone(chains[j])
		}
		full := chains[i][:cap(chains[i])]
		for k := range full {
			full[k] = -7
		}
		for j := range chains {
			if j != i && !slices.Equal(chains[j], others[j]) {
				t.Errorf("chain %d changed with chain %d", j, i)
			}
		}
	}
}
