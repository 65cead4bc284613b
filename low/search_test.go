package low

import (
	"slices"
	"testing"

	"syllogist/api"
	"syllogist/mark"
)

// The functions of this file follow the document's words alone, and share no code with the program. They keep no
// state: each operation is judged by the operations before it that were executed.

// below tells whether a label is below another one, category by category.
func below(a, b api.Label) bool {
	for category := range api.MaxWords {
		if a.Parts>>category&1 > b.Parts>>category&1 {
			return false
		}
	}
	return !(a.Level > b.Level)
}

// wantMark returns the meet of the clearance and of the labels of all objects that a subject has read since it last started anew.
func wantMark(clear, things []api.Label, done []api.Deed, who int) api.Label {
	level := clear[who].Level
	var lacks [api.MaxWords]bool
	for category := range lacks {
		lacks[category] = clear[who].Parts>>category&1 == 0
	}
	for _, d := range slices.Backward(done) {
		if d.By == who && d.Kind == api.BDrop {
			break
		}
		if d.By != who || d.Kind != api.BRead {
			continue
		}
		if things[d.To].Level < level {
			level = things[d.To].Level
		}
		for category := range lacks {
			lacks[category] = lacks[category] || things[d.To].Parts>>category&1 == 0
		}
	}
	mark := api.Label{Level: level}
	for category, lack := range lacks {
		if !lack {
			mark.Parts += 1 << category
		}
	}
	return mark
}

// contains tells whether an object may contain the information of another one.
func contains(done []api.Deed, thing, source int) bool {
	if thing == source {
		return true
	}
	for i, d := range done {
		if d.Kind == api.BWrite && d.To == thing && knows(done[:i], d.By, source) {
			return true
		}
	}
	return false
}

// knows tells whether a subject knows the information of an object.
func knows(done []api.Deed, who, source int) bool {
	for i, d := range slices.Backward(done) {
		if d.By == who && d.Kind == api.BDrop {
			return false
		}
		if d.By == who && d.Kind == api.BRead && contains(done[:i], d.To, source) {
			return true
		}
	}
	return false
}

func wantCode(clear, things []api.Label, done []api.Deed, d api.Deed) api.Errno {
	switch {
	case d.Kind < 1 || d.Kind > 3:
		return api.ErrKind
	case d.By < 0 || d.By >= len(clear):
		return api.ErrArg
	case d.Kind == api.BDrop:
		return api.OK
	case d.To < 0 || d.To >= len(things):
		return api.ErrArg
	case d.Kind == api.BWrite && !below(things[d.To], wantMark(clear, things, done, d.By)):
		return api.ErrDeny
	}
	return api.OK
}

func wantError(clear, things []api.Label, script []api.Deed) api.Errno {
	if len(clear) == 0 || len(clear) > 5 || len(things) > 8 || len(script) > 30 {
		return api.ErrLarge
	}
	wrong := func(a api.Label) bool { return a.Level < 0 || a.Level > 3 || a.Parts > 31 }
	if slices.ContainsFunc(clear, wrong) || slices.ContainsFunc(things, wrong) {
		return api.ErrRange
	}
	return api.OK
}

// search returns what Play should return.
func search(clear, things []api.Label, script []api.Deed) (api.Marked, api.Errno) {
	var want api.Marked
	if e := wantError(clear, things, script); e != api.OK {
		return want, e
	}
	var done []api.Deed
	for _, d := range script {
		code := wantCode(clear, things, done, d)
		if code == api.OK {
			done = append(done, d)
		}
		want.Codes = append(want.Codes, code)
	}
	for who := range clear {
		want.Marks = append(want.Marks, wantMark(clear, things, done, who))
	}
	for thing := range things {
		var set uint32
		for source := range things {
			if contains(done, thing, source) {
				set += 1 << source
			}
		}
		want.From = append(want.From, set)
	}
	return want, api.OK
}

func same(a, b api.Marked) bool {
	return slices.Equal(a.Codes, b.Codes) && slices.Equal(a.Marks, b.Marks) && slices.Equal(a.From, b.From)
}

// compare calls Play, holds its result against the search and against what the rules are for, and returns it.
func compare(t *testing.T, clear, things []api.Label, script []api.Deed) (api.Marked, api.Errno) {
	t.Helper()
	got, e := Play(clear, things, script)
	if want, err := search(clear, things, script); !same(got, want) || e != err {
		t.Fatalf("clearances %v, objects %v, %v: %v %d, want %v %d", clear, things, script, got, e, want, err)
	}
	for who, mark := range got.Marks {
		if !below(mark, clear[who]) {
			t.Fatalf("clearances %v, objects %v, %v: subject %d has the label %v", clear, things, script, who, mark)
		}
	}
	for thing, set := range got.From {
		for source := range things {
			if set>>source&1 == 1 && !below(things[thing], things[source]) {
				t.Fatalf("clearances %v, objects %v, %v: object %d flows into %d", clear, things, script, source, thing)
			}
		}
	}
	return got, e
}

// allDeeds lists all valid operations.
func allDeeds(subjects, objects int) []api.Deed {
	var list []api.Deed
	for by := range subjects {
		for to := range objects {
			list = append(list, read(by, to), write(by, to))
		}
		list = append(list, drop(by))
	}
	return list
}

// eachScript goes through all scripts of up to that many valid operations.
func eachScript(subjects, objects, length int, visit func(script []api.Deed)) {
	all := allDeeds(subjects, objects)
	total := 1
	for size := range length + 1 {
		for word := range total {
			script := make([]api.Deed, size)
			for i := range script {
				script[i] = all[word%len(all)]
				word /= len(all)
			}
			visit(script)
		}
		total *= len(all)
	}
}

// eachLabels goes through all lists of labels with one of two levels, and with or without one category.
func eachLabels(length int, visit func(list []api.Label)) {
	for word := range 1 << (2 * length) {
		list := make([]api.Label, length)
		for i := range list {
			list[i] = api.Label{Level: word >> (2 * i) & 1, Parts: uint32(word >> (2*i + 1) & 1)}
		}
		visit(list)
	}
}

// TestAllShortScripts goes through all short scripts of one and of two subjects, with all labels of a small choice.
func TestAllShortScripts(t *testing.T) {
	for _, c := range []struct{ subjects, objects, length int }{{1, 0, 3}, {1, 1, 5}, {1, 2, 4}, {1, 3, 3}, {2, 1, 3}, {2, 2, 2}} {
		eachLabels(c.subjects+c.objects, func(list []api.Label) {
			eachScript(c.subjects, c.objects, c.length, func(script []api.Deed) {
				compare(t, list[:c.subjects], list[c.subjects:], script)
			})
		})
	}
}

// TestAllScriptsThatAreNotDenied goes through longer scripts, in which information takes several steps: all labels are the same.
func TestAllScriptsThatAreNotDenied(t *testing.T) {
	for _, c := range []struct{ subjects, objects, length int }{{1, 2, 6}, {1, 3, 5}, {2, 3, 4}, {3, 2, 4}} {
		clear, things := make([]api.Label, c.subjects), make([]api.Label, c.objects)
		eachScript(c.subjects, c.objects, c.length, func(script []api.Deed) {
			got, _ := compare(t, clear, things, script)
			if slices.ContainsFunc(got.Codes, func(code api.Errno) bool { return code != api.OK }) {
				t.Fatalf("%v: %v", script, got.Codes)
			}
		})
	}
}

// allLabels lists all labels.
func allLabels() []api.Label {
	var list []api.Label
	for level := range api.MaxLevel + 1 {
		for parts := range uint32(1 << api.MaxWords) {
			list = append(list, api.Label{Level: level, Parts: parts})
		}
	}
	return list
}

// TestAllPairsOfLabels writes to an object with each clearance, and writes to each object after each one was read.
func TestAllPairsOfLabels(t *testing.T) {
	all := allLabels()
	lowest, highest := all[0], all[len(all)-1]
	for _, a := range all {
		for _, b := range all {
			got, _ := compare(t, []api.Label{a}, []api.Label{b}, []api.Deed{write(0, 0), read(0, 0)})
			if (got.Codes[0] == api.OK) != below(b, a) || got.Codes[1] != api.OK {
				t.Fatalf("clearance %v, object %v: %v", a, b, got.Codes)
			}
			got, _ = compare(t, []api.Label{highest}, []api.Label{a, b}, []api.Deed{read(0, 0), write(0, 1)})
			if got.Codes[0] != api.OK || (got.Codes[1] == api.OK) != below(b, a) {
				t.Fatalf("read %v, write %v: %v", a, b, got.Codes)
			}
			compare(t, []api.Label{highest}, []api.Label{a, b, lowest}, []api.Deed{read(0, 0), read(0, 1), write(0, 2)})
		}
	}
}

// sequence is a fixed sequence of numbers.
type sequence uint32

func (s *sequence) next(below int) int {
	*s = *s*1664525 + 1013904223
	return int(*s>>8) % below
}

func (s *sequence) labels(length, levels, parts int) []api.Label {
	list := make([]api.Label, length)
	for i := range list {
		list[i] = api.Label{Level: s.next(levels), Parts: uint32(s.next(parts))}
	}
	return list
}

// script returns operations, of which some are invalid, and all have fields that are not used.
func (s *sequence) script(length, subjects, objects int) []api.Deed {
	list := make([]api.Deed, length)
	for i := range list {
		list[i] = api.Deed{Kind: 1 + s.next(5)/2, By: s.next(subjects), To: s.next(objects + 1)}
		if s.next(16) == 0 {
			list[i] = api.Deed{Kind: s.next(6) - 1, By: s.next(8) - 1, To: s.next(11) - 1}
		}
		list[i].Label, list[i].Val = api.Label{Level: s.next(9) - 3, Parts: uint32(s.next(99))}, s.next(99)-9
	}
	return list
}

// TestManyScripts mixes the numbers of a fixed sequence into scripts of all sizes.
func TestManyScripts(t *testing.T) {
	s := sequence(2236067)
	counts, flows := map[api.Errno]int{}, 0
	for round := range 30000 {
		subjects, objects := 1+round%api.MaxWho, s.next(api.MaxObj+1)
		// Few labels let much flow, and many deny much.
		levels, parts := 1+s.next(api.MaxLevel+1), 1<<s.next(api.MaxWords+1)
		clear, things := s.labels(subjects, levels, parts), s.labels(objects, levels, parts)
		if round%3 > 0 {
			clear[0] = api.Label{Level: levels - 1, Parts: uint32(parts - 1)}
		}
		got, _ := compare(t, clear, things, s.script(s.next(api.MaxDeeds+1), subjects, objects))
		for _, code := range got.Codes {
			counts[code]++
		}
		for thing, set := range got.From {
			if set != 1<<thing {
				flows++
			}
		}
	}
	for _, code := range []api.Errno{api.OK, api.ErrKind, api.ErrArg, api.ErrDeny} {
		if counts[code] < 1000 {
			t.Errorf("only %d operations have code %d", counts[code], code)
		}
	}
	if flows < 5000 {
		t.Errorf("only %d objects have information of others", flows)
	}
}

// TestManyArguments mixes sizes and labels that are valid and invalid.
func TestManyArguments(t *testing.T) {
	s := sequence(1414213)
	counts := map[api.Errno]int{}
	for range 20000 {
		subjects, objects, length := s.next(api.MaxWho+2), s.next(api.MaxObj+2), s.next(api.MaxDeeds+2)
		clear, things := s.labels(subjects, api.MaxLevel+1, 32), s.labels(objects, api.MaxLevel+1, 32)
		for _, list := range [][]api.Label{clear, things} {
			if len(list) > 0 && s.next(6) == 0 {
				list[s.next(len(list))] = api.Label{Level: s.next(8) - 2, Parts: uint32(s.next(64))}
			}
		}
		_, e := compare(t, clear, things, s.script(length, 1+subjects, objects))
		counts[e]++
	}
	for _, e := range []api.Errno{api.OK, api.ErrLarge, api.ErrRange} {
		if counts[e] < 1000 {
			t.Errorf("only %d lists have error %d", counts[e], e)
		}
	}
}

// turn returns the label in the opposite place of the order.
func turn(a api.Label) api.Label {
	return api.Label{Level: api.MaxLevel - a.Level, Parts: 1<<api.MaxWords - 1 - a.Parts}
}

// playTurned lets mark.Play do what Play does: all labels are turned, nobody lacks the clearance to read, and whoever
// starts reads an object of its own with its clearance first. The script must be valid.
func playTurned(clear, things []api.Label, script []api.Deed) (api.Marked, api.Errno) {
	var turned []api.Label
	for _, a := range slices.Concat(things, clear) {
		turned = append(turned, turn(a))
	}
	var longer []api.Deed
	var added []bool
	begin := func(who int) {
		longer, added = append(longer, read(who, len(things)+who)), append(added, true)
	}
	for who := range clear {
		begin(who)
	}
	for _, d := range script {
		longer, added = append(longer, d), append(added, false)
		if d.Kind == api.BDrop {
			begin(d.By)
		}
	}
	highest := api.Label{Level: api.MaxLevel, Parts: 1<<api.MaxWords - 1}
	all, e := mark.Play(slices.Repeat([]api.Label{highest}, len(clear)), turned, longer)
	var m api.Marked
	for i, code := range all.Codes {
		if !added[i] {
			m.Codes = append(m.Codes, code)
		}
	}
	for _, a := range all.Marks {
		m.Marks = append(m.Marks, turn(a))
	}
	for thing := range things {
		m.From = append(m.From, all.From[thing]&(1<<len(things)-1))
	}
	return m, e
}

// TestDual compares Play with the package of which it is the dual.
func TestDual(t *testing.T) {
	s := sequence(3141592)
	denied, flows := 0, 0
	for range 20000 {
		subjects := 1 + s.next(3)
		objects := 1 + s.next(api.MaxObj-subjects)
		levels, parts := 1+s.next(api.MaxLevel+1), 1<<s.next(api.MaxWords+1)
		clear, things := s.labels(subjects, levels, parts), s.labels(objects, levels, parts)
		all := allDeeds(subjects, objects)
		var script []api.Deed
		for range s.next(14) {
			script = append(script, all[s.next(len(all))])
		}
		got, e := Play(clear, things, script)
		if want, err := playTurned(clear, things, script); !same(got, want) || e != err || e != api.OK {
			t.Fatalf("clearances %v, objects %v, %v: %v %d, mark.Play turned %v %d", clear, things, script, got, e, want, err)
		}
		if slices.Contains(got.Codes, api.ErrDeny) {
			denied++
		}
		for thing, set := range got.From {
			if set != 1<<thing {
				flows++
			}
		}
	}
	if denied < 3000 || flows < 3000 {
		t.Errorf("only %d scripts have an operation that is denied, and %d objects have information of others", denied, flows)
	}
}
