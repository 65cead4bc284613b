package mark

import (
	"math"
	"slices"
	"testing"

	"syllogist/api"
)

func read(by, to int) api.Deed  { return api.Deed{Kind: api.BRead, By: by, To: to} }
func write(by, to int) api.Deed { return api.Deed{Kind: api.BWrite, By: by, To: to} }
func drop(by int) api.Deed      { return api.Deed{Kind: api.BDrop, By: by} }

// levels lists labels of these levels, without categories.
func levels(list ...int) []api.Label {
	var labels []api.Label
	for _, level := range list {
		labels = append(labels, api.Label{Level: level})
	}
	return labels
}

// sets lists labels of level 0 with these categories.
func sets(list ...uint32) []api.Label {
	var labels []api.Label
	for _, parts := range list {
		labels = append(labels, api.Label{Parts: parts})
	}
	return labels
}

func TestErrors(t *testing.T) {
	one, wrong := levels(1), levels(4)
	whos, objs, deeds := make([]api.Label, api.MaxWho+1), make([]api.Label, api.MaxObj+1), make([]api.Deed, api.MaxDeeds+1)
	cases := []struct {
		name          string
		clear, things []api.Label
		script        []api.Deed
		want          api.Errno
	}{
		{"nothing at all", nil, nil, nil, api.ErrLarge},
		{"no subjects", nil, one, []api.Deed{read(0, 0)}, api.ErrLarge},
		{"too many subjects", whos, one, nil, api.ErrLarge},
		{"too many objects", one, objs, nil, api.ErrLarge},
		{"too many operations", one, one, deeds, api.ErrLarge},
		{"far too many operations that are valid", one, one, slices.Repeat([]api.Deed{read(0, 0)}, 1000), api.ErrLarge},
		{"far too many of all", make([]api.Label, 1000), make([]api.Label, 1000), make([]api.Deed, 1000), api.ErrLarge},
		{"no subjects before an invalid label", nil, wrong, nil, api.ErrLarge},
		{"too many subjects before an invalid label of one", append(levels(4), whos...), one, nil, api.ErrLarge},
		{"too many subjects before an invalid label of an object", whos, wrong, nil, api.ErrLarge},
		{"too many objects before an invalid clearance", wrong, objs, nil, api.ErrLarge},
		{"too many objects before an invalid label of one", one, append(levels(4), objs...), nil, api.ErrLarge},
		{"too many operations before an invalid clearance", wrong, one, deeds, api.ErrLarge},
		{"too many operations before an invalid label of an object", one, wrong, deeds, api.ErrLarge},

		{"a clearance of too great a level", levels(4), one, nil, api.ErrRange},
		{"a clearance of a negative level", levels(-1), one, nil, api.ErrRange},
		{"a clearance of the least level", levels(math.MinInt), one, nil, api.ErrRange},
		{"a clearance with a bit that is not a category", sets(32), one, nil, api.ErrRange},
		{"a clearance with the last bit", sets(1 << 31), one, nil, api.ErrRange},
		{"an object of too great a level", one, levels(4), nil, api.ErrRange},
		{"an object of a negative level", one, levels(-1), nil, api.ErrRange},
		{"an object of the greatest level", one, levels(math.MaxInt), nil, api.ErrRange},
		{"an object with a bit that is not a category", one, sets(32), nil, api.ErrRange},
		{"an object with all bits", one, sets(math.MaxUint32), nil, api.ErrRange},
		{"the last of the most clearances", levels(0, 1, 2, 3, 4), one, nil, api.ErrRange},
		{"the last of the most objects", one, levels(0, 1, 2, 3, 0, 1, 2, 4), nil, api.ErrRange},
		{"an invalid clearance without objects", wrong, nil, nil, api.ErrRange},
		{"an invalid label of an object that nobody reads", levels(3), levels(0, 4), []api.Deed{read(0, 0)}, api.ErrRange},
		{"an invalid label before an unknown kind", one, wrong, []api.Deed{{}}, api.ErrRange},
		{"an invalid clearance before a subject that there is not", wrong, one, []api.Deed{read(1, 0)}, api.ErrRange},
	}
	for _, c := range cases {
		if got, e := Play(c.clear, c.things, c.script); e != c.want || len(got.Codes)+len(got.Marks)+len(got.From) != 0 {
			t.Errorf("%s: %v %d, want error %d", c.name, got, e, c.want)
		}
	}
}

// TestLimits has as many subjects, objects and operations as there may be, and as few.
func TestLimits(t *testing.T) {
	clear, things := make([]api.Label, api.MaxWho), make([]api.Label, api.MaxObj)
	script := slices.Repeat([]api.Deed{read(4, 7), write(4, 0), drop(4)}, api.MaxDeeds/3)
	want := api.Marked{Codes: make([]api.Errno, api.MaxDeeds), Marks: clear, From: []uint32{129, 2, 4, 8, 16, 32, 64, 128}}
	if got, e := Play(clear, things, script); !same(got, want) || e != api.OK {
		t.Errorf("the most of all: %v %d, want %v", got, e, want)
	}
	want = api.Marked{Marks: levels(0)}
	if got, e := Play(levels(3), nil, nil); !same(got, want) || e != api.OK {
		t.Errorf("one subject alone: %v %d, want %v", got, e, want)
	}
	want = api.Marked{Codes: []api.Errno{api.ErrArg, api.ErrArg, api.OK}, Marks: levels(0)}
	if got, e := Play(levels(3), nil, []api.Deed{read(0, 0), write(0, 0), drop(0)}); !same(got, want) || e != api.OK {
		t.Errorf("no objects: %v %d, want %v", got, e, want)
	}
}

// TestCodesOfInvalidOperations sets one operation between others: it must have that code, and no effect.
func TestCodesOfInvalidOperations(t *testing.T) {
	cases := []struct {
		name string
		d    api.Deed
		want api.Errno
	}{
		{"kind 0", api.Deed{}, api.ErrKind},
		{"one more than the last kind", api.Deed{Kind: 4}, api.ErrKind},
		{"a negative kind", api.Deed{Kind: -1}, api.ErrKind},
		{"the least kind", api.Deed{Kind: math.MinInt}, api.ErrKind},
		{"the greatest kind", api.Deed{Kind: math.MaxInt}, api.ErrKind},
		{"a kind beyond a byte", api.Deed{Kind: 256 + api.BDrop}, api.ErrKind},
		{"an unknown kind before a subject that there is not", api.Deed{Kind: 4, By: 2}, api.ErrKind},
		{"an unknown kind before an object that there is not", api.Deed{Kind: 0, To: 3}, api.ErrKind},
		{"a read by one more than the last subject", read(2, 0), api.ErrArg},
		{"a read by a negative subject", read(-1, 0), api.ErrArg},
		{"a read by the least number", read(math.MinInt, 0), api.ErrArg},
		{"a read by the greatest number", read(math.MaxInt, 0), api.ErrArg},
		{"a write by one more than the last subject", write(2, 2), api.ErrArg},
		{"a write by a negative subject", write(-1, 2), api.ErrArg},
		{"a new start of one more than the last subject", drop(2), api.ErrArg},
		{"a new start of a negative subject", drop(-1), api.ErrArg},
		{"a new start of the greatest number", drop(math.MaxInt), api.ErrArg},
		{"a read of one more than the last object", read(0, 3), api.ErrArg},
		{"a read of a negative object", read(0, -1), api.ErrArg},
		{"a read of the least number", read(0, math.MinInt), api.ErrArg},
		{"a read of the greatest number", read(0, math.MaxInt), api.ErrArg},
		{"a write to one more than the last object", write(0, 3), api.ErrArg},
		{"a write to a negative object", write(0, -1), api.ErrArg},
		{"a write to the greatest number", write(0, math.MaxInt), api.ErrArg},
		{"an object that there is not before one that is denied", write(1, 3), api.ErrArg},
		{"a read beyond the clearance", read(0, 2), api.ErrDeny},
		{"a write below the label", write(0, 0), api.ErrDeny},
	}
	clear, things := levels(1, 2), levels(0, 1, 2)
	for _, c := range cases {
		script := []api.Deed{read(0, 1), read(1, 2), c.d, write(0, 1), write(0, 2)}
		want := api.Marked{Codes: []api.Errno{0, 0, c.want, 0, 0}, Marks: levels(1, 2), From: []uint32{1, 2, 6}}
		if got, e := Play(clear, things, script); !same(got, want) || e != api.OK {
			t.Errorf("%s: %v %d, want %v", c.name, got, e, want)
		}
	}
}

// TestRules has objects 0, 1, .. of the labels that are listed.
func TestRules(t *testing.T) {
	const deny = api.ErrDeny
	cases := []struct {
		name          string
		clear, things []api.Label
		script        []api.Deed
		codes         []api.Errno
		marks         []api.Label
		from          []uint32
	}{
		{"the document's example", levels(1), levels(0, 1), []api.Deed{read(0, 1), write(0, 0)}, []api.Errno{0, deny}, levels(1), []uint32{1, 2}},
		{"no operations", levels(3, 2), levels(0, 3), nil, nil, levels(0, 0), []uint32{1, 2}},
		{"the first label is not the clearance", levels(3), levels(0), []api.Deed{write(0, 0)}, []api.Errno{0}, levels(0), []uint32{1}},
		{"one who knows nothing writes to all objects", levels(0), levels(0, 3), []api.Deed{write(0, 0), write(0, 1)}, []api.Errno{0, 0}, levels(0), []uint32{1, 2}},
		{"up to the clearance", levels(2), levels(1, 2, 3), []api.Deed{read(0, 0), read(0, 1), read(0, 2)}, []api.Errno{0, 0, deny}, levels(2), []uint32{1, 2, 4}},
		{"a lower object lets the label be", levels(2), levels(0, 2), []api.Deed{read(0, 1), read(0, 0), write(0, 0), write(0, 1)}, []api.Errno{0, 0, deny, 0}, levels(2), []uint32{1, 3}},
		{"one may write above the clearance", levels(1), levels(1, 3), []api.Deed{read(0, 0), write(0, 1), read(0, 1)}, []api.Errno{0, 0, deny}, levels(1), []uint32{1, 3}},
		{"a write does not raise the label", levels(3), levels(0, 3), []api.Deed{read(0, 0), write(0, 1), write(0, 0)}, []api.Errno{0, 0, 0}, levels(0), []uint32{1, 3}},
		{"a write does not change the label of the object", levels(3, 0), levels(0, 1), []api.Deed{write(0, 1), read(1, 1), write(0, 0), read(1, 0)}, []api.Errno{0, deny, 0, 0}, levels(0, 0), []uint32{1, 2}},
		{"categories up to the clearance", sets(3), sets(1, 2, 4), []api.Deed{read(0, 0), read(0, 1), read(0, 2), write(0, 0), write(0, 1)}, []api.Errno{0, 0, deny, deny, deny}, sets(3), []uint32{1, 2, 4}},
		{"categories that are joined", sets(7), sets(1, 2, 3, 7), []api.Deed{read(0, 0), write(0, 1), read(0, 1), write(0, 2), write(0, 3)}, []api.Errno{0, deny, 0, 0, 0}, sets(3), []uint32{1, 2, 7, 11}},
		{"a join beyond the clearance, though each label is not", []api.Label{{Level: 1, Parts: 1}}, []api.Label{{Level: 1}, {Parts: 2}, {Parts: 1}}, []api.Deed{read(0, 0), read(0, 1), read(0, 2)}, []api.Errno{0, deny, 0}, []api.Label{{Level: 1, Parts: 1}}, []uint32{1, 2, 4}},
		{"a greater level is not enough for categories", []api.Label{{Level: 3}}, []api.Label{{Parts: 1}}, []api.Deed{read(0, 0)}, []api.Errno{deny}, levels(0), []uint32{1}},
		{"all categories are not enough for a level", sets(31), levels(1), []api.Deed{read(0, 0)}, []api.Errno{deny}, levels(0), []uint32{1}},
		{"a denied read does not tell", levels(0), levels(0, 1), []api.Deed{read(0, 1), write(0, 0), write(0, 1)}, []api.Errno{deny, 0, 0}, levels(0), []uint32{1, 2}},
		{"a denied write does not flow", levels(1, 1), levels(0, 1, 1), []api.Deed{read(0, 1), write(0, 0), read(1, 0), write(1, 2)}, []api.Errno{0, deny, 0, 0}, levels(1, 0), []uint32{1, 2, 5}},
		{"a new start", levels(1), levels(0, 1), []api.Deed{read(0, 1), drop(0), write(0, 0), write(0, 1)}, []api.Errno{0, 0, 0, 0}, levels(0), []uint32{1, 2}},
		{"a new start after a read of one level", levels(0), levels(0, 0), []api.Deed{read(0, 0), drop(0), write(0, 1)}, []api.Errno{0, 0, 0}, levels(0), []uint32{1, 2}},
		{"a new start of another one", levels(1, 1), levels(0, 1), []api.Deed{read(0, 1), drop(1), write(0, 0)}, []api.Errno{0, 0, deny}, levels(1, 0), []uint32{1, 2}},
		{"a new start takes nothing out of an object", levels(0), levels(0, 0), []api.Deed{read(0, 0), write(0, 1), drop(0)}, []api.Errno{0, 0, 0}, levels(0), []uint32{1, 3}},
		{"a new start, and then other categories", sets(3), sets(1, 2), []api.Deed{read(0, 0), drop(0), read(0, 1), write(0, 1)}, []api.Errno{0, 0, 0, 0}, sets(2), []uint32{1, 2}},
		{"two starts at once", levels(2), levels(2), []api.Deed{drop(0), drop(0), read(0, 0)}, []api.Errno{0, 0, 0}, levels(2), []uint32{1}},
		{"by way of an object and of another subject", levels(0, 0), levels(0, 0, 0), []api.Deed{read(0, 0), write(0, 1), read(1, 1), write(1, 2)}, []api.Errno{0, 0, 0, 0}, levels(0, 0), []uint32{1, 3, 7}},
		{"only what had come into the object when it was read", levels(0, 0), levels(0, 0, 0), []api.Deed{read(1, 1), read(0, 0), write(0, 1), write(1, 2)}, []api.Errno{0, 0, 0, 0}, levels(0, 0), []uint32{1, 3, 6}},
		{"only what the subject knew when it wrote", levels(0), levels(0, 0), []api.Deed{write(0, 1), read(0, 0)}, []api.Errno{0, 0}, levels(0), []uint32{1, 2}},
		{"one subject does not know what another one does", levels(0, 0), levels(0, 0), []api.Deed{read(0, 0), write(1, 1)}, []api.Errno{0, 0}, levels(0, 0), []uint32{1, 2}},
		{"an object keeps what it had", levels(0), levels(0, 0, 0), []api.Deed{read(0, 0), write(0, 2), drop(0), read(0, 1), write(0, 2)}, []api.Errno{0, 0, 0, 0, 0}, levels(0), []uint32{1, 2, 7}},
		{"into each other", levels(0), levels(0, 0), []api.Deed{read(0, 0), read(0, 1), write(0, 0), write(0, 1)}, []api.Errno{0, 0, 0, 0}, levels(0), []uint32{3, 3}},
	}
	for _, c := range cases {
		want := api.Marked{Codes: c.codes, Marks: c.marks, From: c.from}
		if got, e := Play(c.clear, c.things, c.script); !same(got, want) || e != api.OK {
			t.Errorf("%s: %v %d, want %v", c.name, got, e, want)
		}
	}
}

// TestFieldsThatAreNotUsed has invalid labels and numbers in them.
func TestFieldsThatAreNotUsed(t *testing.T) {
	script := []api.Deed{read(0, 1), drop(0), read(0, 0), write(0, 1)}
	want := api.Marked{Codes: make([]api.Errno, len(script)), Marks: levels(0), From: []uint32{1, 3}}
	for _, label := range []api.Label{{}, {Level: 3, Parts: 31}, {Level: -1}, {Level: 4}, {Parts: math.MaxUint32}} {
		for _, number := range []int{0, 1, 2, -1, math.MinInt, math.MaxInt} {
			filled := slices.Clone(script)
			for i := range filled {
				filled[i].Label, filled[i].Val = label, number
				if filled[i].Kind == api.BDrop {
					filled[i].To = number
				}
			}
			if got, e := Play(levels(1), levels(0, 1), filled); !same(got, want) || e != api.OK {
				t.Errorf("%v and %d: %v %d, want %v", label, number, got, e, want)
			}
		}
	}
}

// clone copies a result.
func clone(m api.Marked) api.Marked {
	return api.Marked{Codes: slices.Clone(m.Codes), Marks: slices.Clone(m.Marks), From: slices.Clone(m.From)}
}

// TestArgumentsAreKept has more behind each list, which must stay as it is, too.
func TestArgumentsAreKept(t *testing.T) {
	labels, deeds := levels(1, 1, 8, 0, 1, 2, 9, 9), []api.Deed{read(0, 1), write(0, 2), drop(0), read(1, 0), read(0, 0), {Kind: 9}}
	labelsBefore, deedsBefore := slices.Clone(labels), slices.Clone(deeds)
	clear, things, script := labels[:2], labels[3:6], deeds[:4]
	want := api.Marked{Codes: []api.Errno{0, 0, 0, 0}, Marks: levels(0, 0), From: []uint32{1, 2, 6}}
	for range 2 {
		got, e := Play(clear, things, script)
		if !same(got, want) || e != api.OK {
			t.Errorf("%v %d, want %v", got, e, want)
		}
		// Neither the arguments nor a later call must see what is written into a result, and the other way round.
		for i := range got.Codes {
			got.Codes[i] = 77
		}
		for i := range got.Marks {
			got.Marks[i] = api.Label{Level: 77}
		}
		for i := range got.From {
			got.From[i] = 77
		}
		got = api.Marked{Codes: append(got.Codes, 78), Marks: append(got.Marks, api.Label{Level: 78}), From: append(got.From, 78)}
		if !slices.Equal(labels, labelsBefore) || !slices.Equal(deeds, deedsBefore) {
			t.Errorf("the arguments are %v and %v", labels, deeds)
		}
		mine := clone(got)
		for i := range labels {
			labels[i] = api.Label{Level: 79}
		}
		for i := range deeds {
			deeds[i] = api.Deed{Kind: 79}
		}
		if !same(got, mine) {
			t.Errorf("the result has become %v", got)
		}
		copy(labels, labelsBefore)
		copy(deeds, deedsBefore)
	}
}

func TestNilAndEmptyListsAreTheSame(t *testing.T) {
	for _, clear := range [][]api.Label{levels(1), nil, {}} {
		first, e := Play(clear, nil, nil)
		for _, things := range [][]api.Label{nil, {}} {
			for _, script := range [][]api.Deed{nil, {}} {
				if got, err := Play(clear, things, script); !same(got, first) || err != e {
					t.Errorf("%v: %v %d, want %v %d", clear, got, err, first, e)
				}
			}
		}
	}
	first, e := Play(nil, levels(1), nil)
	if got, err := Play([]api.Label{}, levels(1), nil); !same(got, first) || err != e || e != api.ErrLarge {
		t.Errorf("%v %d, want %v %d", got, err, first, e)
	}
}

// TestRun counts which operations are executed, and lets them be judged without regard to labels.
func TestRun(t *testing.T) {
	kinds := []int{api.BRead, api.BWrite, api.BDrop}
	valid := []api.Deed{read(0, 0), write(0, 1), read(1, 1), write(1, 2), drop(0), write(0, 2)}
	invalid := []api.Deed{{Kind: 4}, read(2, 0), write(0, 3), drop(-1)}
	cases := []struct {
		name  string
		code  api.Errno
		codes []api.Errno
		from  []uint32
	}{
		{"all are OK", api.OK, []api.Errno{0, 0, 0, 0, 0, 0}, []uint32{1, 3, 7}},
		{"none is OK", api.ErrNone, []api.Errno{5, 5, 5, 5, 5, 5}, []uint32{1, 2, 4}},
	}
	for _, c := range cases {
		var executed []api.Deed
		codes, from := Run(2, 3, kinds, slices.Concat(invalid, valid), func(d api.Deed) api.Errno {
			executed = append(executed, d)
			return c.code
		})
		want := append([]api.Errno{api.ErrKind, api.ErrArg, api.ErrArg, api.ErrArg}, c.codes...)
		if !slices.Equal(codes, want) || !slices.Equal(from, c.from) || !slices.Equal(executed, valid) {
			t.Errorf("%s: %v %v, executed %v, want %v %v", c.name, codes, from, executed, want, c.from)
		}
	}
	for _, number := range []int{0, -1, math.MinInt} {
		codes, from := Run(number, number, kinds, valid, func(api.Deed) api.Errno { return api.OK })
		if !slices.Equal(codes, slices.Repeat([]api.Errno{api.ErrArg}, len(valid))) || len(from) != 0 {
			t.Errorf("%d subjects and objects: %v %v", number, codes, from)
		}
	}
}

// TestRunWithFewerKinds has operations of the kinds that there are not, whose numbers are valid and invalid.
func TestRunWithFewerKinds(t *testing.T) {
	script := []api.Deed{read(0, 0), write(0, 1), drop(0), drop(1), write(0, 1), read(0, 1), read(1, 0), write(1, 1)}
	cases := []struct {
		name  string
		kinds []int
		codes []api.Errno
		from  []uint32
	}{
		{"all", []int{api.BRead, api.BWrite, api.BDrop}, []api.Errno{0, 0, 0, 2, 0, 0, 2, 2}, []uint32{1, 3}},
		{"no new start", []int{api.BRead, api.BWrite}, []api.Errno{0, 0, 6, 6, 0, 0, 2, 2}, []uint32{1, 3}},
		{"no write", []int{api.BRead, api.BDrop}, []api.Errno{0, 6, 0, 2, 6, 0, 2, 6}, []uint32{1, 2}},
		{"no read", []int{api.BDrop, api.BWrite}, []api.Errno{6, 0, 0, 2, 0, 6, 6, 2}, []uint32{1, 2}},
		{"none", nil, []api.Errno{6, 6, 6, 6, 6, 6, 6, 6}, []uint32{1, 2}},
	}
	for _, c := range cases {
		if codes, from := Run(1, 2, c.kinds, script, func(api.Deed) api.Errno { return api.OK }); !slices.Equal(codes, c.codes) || !slices.Equal(from, c.from) {
			t.Errorf("%s: %v %v, want %v %v", c.name, codes, from, c.codes, c.from)
		}
	}
}
