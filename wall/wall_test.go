package wall

import (
	"math"
	"slices"
	"testing"

	"syllogist/api"
)

func read(by, to int) api.Deed  { return api.Deed{Kind: api.BRead, By: by, To: to} }
func write(by, to int) api.Deed { return api.Deed{Kind: api.BWrite, By: by, To: to} }

// TestCommonErrors has arguments for both functions; Play has one subject and no operations.
func TestCommonErrors(t *testing.T) {
	many := make([]int, api.MaxObj+1)
	cases := []struct {
		name        string
		firm, class []int
		want        api.Errno
	}{
		{"too many objects", many, []int{0}, api.ErrLarge},
		{"too many objects of nobody", slices.Repeat([]int{-1}, api.MaxObj+1), nil, api.ErrLarge},
		{"too many firms", []int{0}, many, api.ErrLarge},
		{"too many firms without objects", nil, many, api.ErrLarge},
		{"too many of both", many, many, api.ErrLarge},
		{"far too many of both", make([]int, 1000), make([]int, 1000), api.ErrLarge},
		{"too many objects, of which the first is invalid", append([]int{-2}, many...), []int{0}, api.ErrLarge},
		{"too many objects, of which the first is of a firm that there is not", append([]int{1}, many...), []int{0}, api.ErrLarge},
		{"too many firms and an invalid object", []int{-2}, many, api.ErrLarge},
		{"too many firms and an object of one more than the last", []int{api.MaxObj + 1}, many, api.ErrLarge},

		{"less than nobody", []int{-2}, []int{0}, api.ErrArg},
		{"the least number", []int{math.MinInt}, []int{0}, api.ErrArg},
		{"one more than the last firm", []int{1}, []int{0}, api.ErrArg},
		{"the greatest number", []int{math.MaxInt}, []int{0}, api.ErrArg},
		{"no firms", []int{0}, nil, api.ErrArg},
		{"less than nobody, and no firms", []int{-2}, nil, api.ErrArg},
		{"the last of the most objects is too great", []int{0, 1, 2, 3, 4, 5, 6, 8}, make([]int, api.MaxObj), api.ErrArg},
		{"the last of the most objects is too small", []int{-1, -1, -1, -1, -1, -1, -1, -2}, make([]int, api.MaxObj), api.ErrArg},
		{"the first of the most objects", []int{8, 1, 2, 3, 4, 5, 6, 7}, make([]int, api.MaxObj), api.ErrArg},
		{"an object of a class instead of a firm", []int{7}, []int{7, 7}, api.ErrArg},
	}
	for _, c := range cases {
		if got, e := Play(1, c.firm, c.class, nil); e != c.want || len(got.Codes)+len(got.Read)+len(got.From) != 0 {
			t.Errorf("%s: %v %d, want error %d", c.name, got, e, c.want)
		}
		if got, e := Fewest(c.firm, c.class); e != c.want || got != 0 {
			t.Errorf("%s: fewest %d %d, want error %d", c.name, got, e, c.want)
		}
	}
}

func TestErrorsOfPlay(t *testing.T) {
	firm, class, many := []int{0}, []int{0}, make([]int, api.MaxObj+1)
	deeds := make([]api.Deed, api.MaxDeeds+1)
	cases := []struct {
		name        string
		who         int
		firm, class []int
		script      []api.Deed
		want        api.Errno
	}{
		{"no subjects", 0, firm, class, nil, api.ErrLarge},
		{"no subjects and nothing else", 0, nil, nil, nil, api.ErrLarge},
		{"fewer than none", -1, firm, class, nil, api.ErrLarge},
		{"the least number of subjects", math.MinInt, firm, class, nil, api.ErrLarge},
		{"too many subjects", api.MaxWho + 1, firm, class, nil, api.ErrLarge},
		{"the greatest number of subjects", math.MaxInt, firm, class, []api.Deed{read(math.MaxInt-1, 0)}, api.ErrLarge},
		{"too many operations", 1, firm, class, deeds, api.ErrLarge},
		{"far too many operations that are valid", 1, firm, class, slices.Repeat([]api.Deed{read(0, 0)}, 1000), api.ErrLarge},
		{"no subjects before an invalid object", 0, []int{-2}, class, nil, api.ErrLarge},
		{"too many subjects before an invalid object", api.MaxWho + 1, []int{1}, class, nil, api.ErrLarge},
		{"too many operations before an invalid object", 1, []int{1}, class, deeds, api.ErrLarge},
		{"too many operations and too many objects", 1, many, class, deeds, api.ErrLarge},

		{"an invalid object before an unknown kind", 1, []int{1}, class, []api.Deed{{}}, api.ErrArg},
		{"an invalid object that nobody reads", 1, []int{0, -2}, class, []api.Deed{read(0, 0)}, api.ErrArg},
		{"an invalid object with the most of all", api.MaxWho, []int{0, 0, 0, 0, 0, 0, 0, 1}, class, deeds[1:], api.ErrArg},
	}
	for _, c := range cases {
		if got, e := Play(c.who, c.firm, c.class, c.script); e != c.want || len(got.Codes)+len(got.Read)+len(got.From) != 0 {
			t.Errorf("%s: %v %d, want error %d", c.name, got, e, c.want)
		}
	}
}

// TestLimits has as many subjects, objects, firms and operations as there may be, and as few.
func TestLimits(t *testing.T) {
	firm, class := []int{7, 6, 5, 4, 3, 2, 1, 7}, make([]int, api.MaxObj)
	script := slices.Repeat([]api.Deed{read(4, 7), write(4, 0), read(0, 6)}, api.MaxDeeds/3)
	want := api.Walled{Codes: make([]api.Errno, api.MaxDeeds), Read: []uint32{64, 0, 0, 0, 128}, From: []uint32{129, 2, 4, 8, 16, 32, 64, 128}}
	if got, e := Play(api.MaxWho, firm, class, script); !same(got, want) || e != api.OK {
		t.Errorf("the most of all: %v %d, want %v", got, e, want)
	}
	want = api.Walled{Read: []uint32{0}}
	if got, e := Play(1, nil, nil, nil); !same(got, want) || e != api.OK {
		t.Errorf("one subject alone: %v %d, want %v", got, e, want)
	}
	want = api.Walled{Codes: []api.Errno{api.ErrArg, api.ErrArg, api.ErrKind}, Read: []uint32{0}}
	if got, e := Play(1, nil, []int{0, 0}, []api.Deed{read(0, 0), write(0, 0), {Kind: api.BDrop}}); !same(got, want) || e != api.OK {
		t.Errorf("no objects: %v %d, want %v", got, e, want)
	}
}

// TestCodesOfInvalidOperations sets one operation between others: it must have that code, and no effect.
func TestCodesOfInvalidOperations(t *testing.T) {
	cases := []struct {
		name string
		d    api.Deed
		want api.Errno
	}{
		{"kind 0", api.Deed{}, api.ErrKind},
		{"a new start", api.Deed{Kind: api.BDrop}, api.ErrKind},
		{"a new start of the other one", api.Deed{Kind: api.BDrop, By: 1}, api.ErrKind},
		{"a new start of one that there is not", api.Deed{Kind: api.BDrop, By: 2}, api.ErrKind},
		{"a new start of a negative subject", api.Deed{Kind: api.BDrop, By: -1}, api.ErrKind},
		{"a new start with an object that there is not", api.Deed{Kind: api.BDrop, To: 4}, api.ErrKind},
		{"a kind of another chapter", api.Deed{Kind: api.GDrop}, api.ErrKind},
		{"a negative kind", api.Deed{Kind: -1}, api.ErrKind},
		{"the least kind", api.Deed{Kind: math.MinInt}, api.ErrKind},
		{"the greatest kind", api.Deed{Kind: math.MaxInt}, api.ErrKind},
		{"a kind beyond a byte", api.Deed{Kind: 256 + api.BRead}, api.ErrKind},
		{"an unknown kind before a subject that there is not", api.Deed{Kind: 4, By: 2}, api.ErrKind},
		{"an unknown kind before an object that there is not", api.Deed{Kind: 0, To: 4}, api.ErrKind},
		{"a read by one more than the last subject", read(2, 0), api.ErrArg},
		{"a read by a negative subject", read(-1, 0), api.ErrArg},
		{"a read by the least number", read(math.MinInt, 0), api.ErrArg},
		{"a read by the greatest number", read(math.MaxInt, 0), api.ErrArg},
		{"a write by one more than the last subject", write(2, 0), api.ErrArg},
		{"a write by a negative subject", write(-1, 0), api.ErrArg},
		{"a read of one more than the last object", read(1, 4), api.ErrArg},
		{"a read of a negative object", read(1, -1), api.ErrArg},
		{"a read of the least number", read(1, math.MinInt), api.ErrArg},
		{"a read of the greatest number", read(1, math.MaxInt), api.ErrArg},
		{"a write to one more than the last object", write(1, 4), api.ErrArg},
		{"a write to a negative object", write(1, -1), api.ErrArg},
		{"a write to the greatest number", write(0, math.MaxInt), api.ErrArg},
		{"a read of a competitor's object", read(0, 1), api.ErrDeny},
		{"a write to a competitor's object", write(0, 1), api.ErrDeny},
		{"a write to an object of nobody", write(0, 3), api.ErrDeny},
	}
	firm, class := []int{0, 1, 0, -1}, []int{5, 5}
	for _, c := range cases {
		script := []api.Deed{read(0, 0), c.d, read(1, 1), write(0, 2), write(1, 1)}
		want := api.Walled{Codes: []api.Errno{0, c.want, 0, 0, 0}, Read: []uint32{1, 2}, From: []uint32{1, 2, 5, 8}}
		if got, e := Play(2, firm, class, script); !same(got, want) || e != api.OK {
			t.Errorf("%s: %v %d, want %v", c.name, got, e, want)
		}
	}
}

func TestReads(t *testing.T) {
	const deny = api.ErrDeny
	cases := []struct {
		name        string
		firm, class []int
		things      []int
		codes       []api.Errno
		read        uint32
	}{
		{"one object", []int{0}, []int{0}, []int{0}, []api.Errno{0}, 1},
		{"one object of nobody", []int{-1}, nil, []int{0, 0}, []api.Errno{0, 0}, 1},
		{"one object again", []int{0}, []int{0}, []int{0, 0, 0}, []api.Errno{0, 0, 0}, 1},
		{"two objects of one firm", []int{0, 0}, []int{3}, []int{1, 0}, []api.Errno{0, 0}, 3},
		{"competitors", []int{0, 1}, []int{3, 3}, []int{0, 1}, []api.Errno{0, deny}, 1},
		{"competitors the other way round", []int{0, 1}, []int{3, 3}, []int{1, 0}, []api.Errno{0, deny}, 2},
		{"firms of two classes", []int{0, 1}, []int{3, 4}, []int{0, 1}, []api.Errno{0, 0}, 3},
		{"a class is not its number's firm", []int{0, 1, 2}, []int{1, 0, 1}, []int{0, 1, 2}, []api.Errno{0, 0, deny}, 3},
		{"negative classes are classes", []int{0, 1, 2}, []int{-1, -1, -2}, []int{0, 1, 2}, []api.Errno{0, deny, 0}, 5},
		{"the least and the greatest class", []int{0, 1, 2, 3}, []int{math.MinInt, math.MaxInt, math.MinInt, math.MaxInt}, []int{2, 3, 0, 1}, []api.Errno{0, 0, deny, deny}, 12},
		{"classes that differ by a power of two", []int{0, 1, 2}, []int{1, 257, 1 + 1<<32}, []int{0, 1, 2}, []api.Errno{0, 0, 0}, 7},
		{"an object of nobody before", []int{-1, 0}, []int{0}, []int{0, 1}, []api.Errno{0, 0}, 3},
		{"an object of nobody after", []int{-1, 0}, []int{0}, []int{1, 0}, []api.Errno{0, 0}, 3},
		{"an object of nobody where a class is -1", []int{-1, 0, 1}, []int{-1, -1}, []int{0, 1, 0, 2}, []api.Errno{0, 0, 0, deny}, 3},
		{"objects of nobody are not competitors'", []int{-1, -1}, []int{0, 0}, []int{0, 1}, []api.Errno{0, 0}, 3},
		{"by way of nobody", []int{0, -1, 1}, []int{0, 0}, []int{0, 1, 2}, []api.Errno{0, 0, deny}, 3},
		{"the last firm against the first of many", []int{0, 1, 2, 3, 4, 5, 6, 7}, []int{9, 1, 2, 3, 4, 5, 6, 9}, []int{0, 1, 2, 3, 4, 5, 6, 7}, []api.Errno{0, 0, 0, 0, 0, 0, 0, deny}, 127},
		{"the firm that was read first stands", []int{2, 1, 0, 2}, []int{0, 0, 0}, []int{0, 1, 2, 3}, []api.Errno{0, deny, deny, 0}, 9},
		{"a denied read builds no wall", []int{0, 1, 2}, []int{0, 0, 1}, []int{0, 1, 2, 0}, []api.Errno{0, deny, 0, 0}, 5},
		{"two classes with two firms each", []int{0, 1, 2, 3}, []int{0, 1, 0, 1}, []int{0, 3, 1, 2, 0, 3}, []api.Errno{0, 0, deny, deny, 0, 0}, 9},
		{"a firm without objects", []int{0, 2}, []int{0, 0, 1}, []int{0, 1}, []api.Errno{0, 0}, 3},
	}
	for _, c := range cases {
		var script []api.Deed
		for _, thing := range c.things {
			script = append(script, read(1, thing))
		}
		want := api.Walled{Codes: c.codes, Read: []uint32{0, c.read}}
		for thing := range c.firm {
			want.From = append(want.From, 1<<thing)
		}
		if got, e := Play(2, c.firm, c.class, script); !same(got, want) || e != api.OK {
			t.Errorf("%s: %v %d, want %v", c.name, got, e, want)
		}
	}
}

func TestWrites(t *testing.T) {
	const deny = api.ErrDeny
	cases := []struct {
		name        string
		firm, class []int
		script      []api.Deed
		codes       []api.Errno
		read, from  []uint32
	}{
		{"the shared example", []int{0, 1, -1}, []int{7, 7}, []api.Deed{read(0, 0), read(0, 1), write(0, 2), {Kind: api.BDrop}}, []api.Errno{0, deny, deny, api.ErrKind}, []uint32{1, 0}, []uint32{1, 2, 4}},
		{"one who has read nothing", []int{0, 1, -1}, []int{7, 7}, []api.Deed{write(0, 0), write(0, 1), write(0, 2)}, []api.Errno{0, 0, 0}, []uint32{0, 0}, []uint32{1, 2, 4}},
		{"a write is no read", []int{0, 1}, []int{7, 7}, []api.Deed{write(0, 0), read(0, 1), write(0, 1)}, []api.Errno{0, 0, 0}, []uint32{2, 0}, []uint32{1, 2}},
		{"to the same object", []int{0}, []int{7}, []api.Deed{read(0, 0), write(0, 0)}, []api.Errno{0, 0}, []uint32{1, 0}, []uint32{1}},
		{"to another object of the firm", []int{0, 0}, []int{7}, []api.Deed{read(0, 0), write(0, 1)}, []api.Errno{0, 0}, []uint32{1, 0}, []uint32{1, 3}},
		{"to a competitor", []int{0, 1}, []int{7, 7}, []api.Deed{read(0, 0), write(0, 1)}, []api.Errno{0, deny}, []uint32{1, 0}, []uint32{1, 2}},
		{"to a firm of another class", []int{0, 1}, []int{7, 8}, []api.Deed{read(0, 0), write(0, 1)}, []api.Errno{0, deny}, []uint32{1, 0}, []uint32{1, 2}},
		{"to nobody", []int{0, -1}, []int{7}, []api.Deed{read(0, 0), write(0, 1)}, []api.Errno{0, deny}, []uint32{1, 0}, []uint32{1, 2}},
		{"to nobody, who has objects of nobody alone", []int{-1, -1}, nil, []api.Deed{read(0, 0), write(0, 1)}, []api.Errno{0, 0}, []uint32{1, 0}, []uint32{1, 3}},
		{"from nobody to a firm", []int{-1, 0, 1}, []int{7, 7}, []api.Deed{read(0, 0), write(0, 1), write(0, 2)}, []api.Errno{0, 0, 0}, []uint32{1, 0}, []uint32{1, 3, 5}},
		{"from nobody and a firm to that firm", []int{-1, 0, 0}, []int{7}, []api.Deed{read(0, 0), read(0, 1), write(0, 2), write(0, 0)}, []api.Errno{0, 0, 0, deny}, []uint32{3, 0}, []uint32{1, 2, 7}},
		{"of two classes to neither", []int{0, 1}, []int{7, 8}, []api.Deed{read(0, 0), read(0, 1), write(0, 0), write(0, 1)}, []api.Errno{0, 0, deny, deny}, []uint32{3, 0}, []uint32{1, 2}},
		{"until another class is read", []int{0, 0, 1}, []int{7, 8}, []api.Deed{read(0, 0), write(0, 1), read(0, 2), write(0, 1)}, []api.Errno{0, 0, 0, deny}, []uint32{5, 0}, []uint32{1, 3, 4}},
		{"a denied read does not count", []int{0, 1, 0}, []int{7, 7}, []api.Deed{read(0, 0), read(0, 1), write(0, 2)}, []api.Errno{0, deny, 0}, []uint32{1, 0}, []uint32{1, 2, 5}},
		{"a denied write does not flow", []int{0, 1}, []int{7, 8}, []api.Deed{read(0, 0), write(0, 1), read(1, 1), write(1, 1)}, []api.Errno{0, deny, 0, 0}, []uint32{1, 2}, []uint32{1, 2}},
		{"each has a wall of one's own", []int{0, 1}, []int{7, 7}, []api.Deed{read(0, 0), read(1, 1), write(0, 0), write(1, 1), write(0, 1), write(1, 0)}, []api.Errno{0, 0, 0, 0, deny, deny}, []uint32{1, 2}, []uint32{1, 2}},
		{"by way of an object and of another subject", []int{0, 0, 0}, []int{7}, []api.Deed{read(0, 0), write(0, 1), read(1, 1), write(1, 2)}, []api.Errno{0, 0, 0, 0}, []uint32{1, 2}, []uint32{1, 3, 7}},
		{"only what had come into the object when it was read", []int{0, 0, 0}, []int{7}, []api.Deed{read(1, 1), read(0, 0), write(0, 1), write(1, 2)}, []api.Errno{0, 0, 0, 0}, []uint32{1, 2}, []uint32{1, 3, 6}},
		{"only what the subject knew when it wrote", []int{0, 0}, []int{7}, []api.Deed{write(0, 1), read(0, 0)}, []api.Errno{0, 0}, []uint32{1, 0}, []uint32{1, 2}},
		{"what flowed into an object was not read", []int{-1, 0, -1}, []int{7}, []api.Deed{read(0, 0), write(0, 1), read(1, 1), write(1, 2)}, []api.Errno{0, 0, 0, deny}, []uint32{1, 2}, []uint32{1, 3, 4}},
		{"into each other", []int{0, 0}, []int{7}, []api.Deed{read(0, 0), read(0, 1), write(0, 0), write(0, 1)}, []api.Errno{0, 0, 0, 0}, []uint32{3, 0}, []uint32{3, 3}},
	}
	for _, c := range cases {
		want := api.Walled{Codes: c.codes, Read: c.read, From: c.from}
		if got, e := Play(2, c.firm, c.class, c.script); !same(got, want) || e != api.OK {
			t.Errorf("%s: %v %d, want %v", c.name, got, e, want)
		}
	}
}

func TestFewest(t *testing.T) {
	cases := []struct {
		name        string
		firm, class []int
		want        int
	}{
		{"nothing at all", nil, nil, 0},
		{"no objects", nil, []int{0, 0, 0}, 0},
		{"objects of nobody", []int{-1, -1}, nil, 0},
		{"objects of nobody beside firms", []int{-1, -1}, []int{0, 0}, 0},
		{"the document's example", []int{0, 1}, []int{7, 7}, 2},
		{"one object", []int{0}, []int{7}, 1},
		{"many objects of one firm", []int{0, 0, 0, 0, 0, 0, 0, 0}, []int{7}, 1},
		{"one object of the last firm", []int{2}, []int{7, 7, 7}, 1},
		{"firms of two classes", []int{0, 1}, []int{7, 8}, 1},
		{"as many classes as firms", []int{0, 1, 2, 3, 4, 5, 6, 7}, []int{7, 6, 5, 4, 3, 2, 1, 0}, 1},
		{"one class, more than there may be subjects in Play", []int{0, 1, 2, 3, 4, 5, 6, 7}, make([]int, api.MaxObj), 8},
		{"firms without objects", []int{1, 3, -1}, []int{7, 7, 7, 7, 7}, 2},
		{"a class of which no firm has an object", []int{0}, []int{7, 8, 8, 8}, 1},
		{"the greater class comes first", []int{0, 1, 2, 3, 4}, []int{7, 7, 7, 8, 8}, 3},
		{"the greater class comes last", []int{0, 1, 2, 3, 4}, []int{7, 7, 8, 8, 8}, 3},
		{"classes that alternate", []int{5, 4, 3, 2, 1, 0}, []int{1, 0, 1, 0, 1, 0}, 3},
		{"a class with more objects and fewer firms", []int{0, 0, 0, 0, 1, 2}, []int{7, 8, 8}, 2},
		{"nobody is not a firm of class -1", []int{-1, 0, 1}, []int{-1, -1}, 2},
		{"the least and the greatest class", []int{0, 1, 2}, []int{math.MinInt, math.MaxInt, math.MinInt}, 2},
		{"classes that differ by a power of two", []int{0, 1, 2}, []int{1, 257, 1 + 1<<32}, 1},
		{"one firm between objects of others", []int{0, 1, 0, 1, 0, -1}, []int{7, 7}, 2},
	}
	for _, c := range cases {
		if got, e := Fewest(c.firm, c.class); got != c.want || e != api.OK {
			t.Errorf("%s: %d %d, want %d", c.name, got, e, c.want)
		}
	}
}

// TestFieldsThatAreNotUsed has labels and numbers in them.
func TestFieldsThatAreNotUsed(t *testing.T) {
	script := []api.Deed{read(0, 0), write(0, 1), read(0, 2), write(0, 2)}
	want := api.Walled{Codes: []api.Errno{0, 0, api.ErrDeny, api.ErrDeny}, Read: []uint32{1}, From: []uint32{1, 3, 4}}
	for _, label := range []api.Label{{}, {Level: 3, Parts: 31}, {Level: -1}, {Level: 4}, {Parts: math.MaxUint32}} {
		for _, number := range []int{0, 1, -1, math.MinInt, math.MaxInt} {
			filled := slices.Clone(script)
			for i := range filled {
				filled[i].Label, filled[i].Val = label, number
			}
			if got, e := Play(1, []int{0, 0, 1}, []int{4, 4}, filled); !same(got, want) || e != api.OK {
				t.Errorf("%v and %d: %v %d, want %v", label, number, got, e, want)
			}
		}
	}
}

// clone copies a result.
func clone(w api.Walled) api.Walled {
	return api.Walled{Codes: slices.Clone(w.Codes), Read: slices.Clone(w.Read), From: slices.Clone(w.From)}
}

// TestArgumentsAreKept has more behind each list, which must stay as it is, too.
func TestArgumentsAreKept(t *testing.T) {
	numbers, deeds := []int{0, 1, 0, 9, -9, 4, 4, 4, 9}, []api.Deed{read(0, 2), write(0, 0), read(0, 1), read(1, 1), read(0, 0), {Kind: 9}}
	numbersBefore, deedsBefore := slices.Clone(numbers), slices.Clone(deeds)
	firm, class, script := numbers[:3], numbers[5:7], deeds[:4]
	want := api.Walled{Codes: []api.Errno{0, 0, api.ErrDeny, 0}, Read: []uint32{4, 2}, From: []uint32{5, 2, 4}}
	for range 2 {
		if got, e := Fewest(firm, class); got != 2 || e != api.OK {
			t.Errorf("fewest %d %d, want 2", got, e)
		}
		got, e := Play(2, firm, class, script)
		if !same(got, want) || e != api.OK {
			t.Errorf("%v %d, want %v", got, e, want)
		}
		// Neither the arguments nor a later call must see what is written into a result, and the other way round.
		for i := range got.Codes {
			got.Codes[i] = 77
		}
		for i := range got.Read {
			got.Read[i] = 77
		}
		if slices.Contains(got.From, 77) {
			t.Errorf("lists of the result share memory: %v", got)
		}
		for i := range got.From {
			got.From[i] = 78
		}
		if slices.Contains(got.Read, 78) {
			t.Errorf("lists of the result share memory: %v", got)
		}
		got = api.Walled{Codes: append(got.Codes, 78), Read: append(got.Read, 78), From: append(got.From, 78)}
		if !slices.Equal(numbers, numbersBefore) || !slices.Equal(deeds, deedsBefore) {
			t.Errorf("the arguments are %v and %v", numbers, deeds)
		}
		mine := clone(got)
		for i := range numbers {
			numbers[i] = 79
		}
		for i := range deeds {
			deeds[i] = api.Deed{Kind: 79}
		}
		if !same(got, mine) {
			t.Errorf("the result has become %v", got)
		}
		copy(numbers, numbersBefore)
		copy(deeds, deedsBefore)
	}
}

func TestNilAndEmptyListsAreTheSame(t *testing.T) {
	first, e := Play(1, nil, nil, nil)
	for _, firm := range [][]int{nil, {}} {
		for _, class := range [][]int{nil, {}} {
			for _, script := range [][]api.Deed{nil, {}} {
				if got, err := Play(1, firm, class, script); !same(got, first) || err != e || e != api.OK {
					t.Errorf("%v %d, want %v %d", got, err, first, e)
				}
			}
			if got, e := Fewest(firm, class); got != 0 || e != api.OK {
				t.Errorf("fewest %d %d, want 0", got, e)
			}
		}
		if got, e := Play(1, firm, []int{0}, nil); !same(got, first) || e != api.OK {
			t.Errorf("%v %d, want %v", got, e, first)
		}
	}
	for _, class := range [][]int{nil, {}} {
		if got, e := Play(1, []int{0}, class, nil); len(got.Codes)+len(got.Read)+len(got.From) != 0 || e != api.ErrArg {
			t.Errorf("%v %d, want error %d", got, e, api.ErrArg)
		}
	}
}
