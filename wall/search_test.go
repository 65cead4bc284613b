package wall

import (
	"slices"
	"testing"

	"syllogist/api"
)

// The functions of this file follow the document's words alone, and share no code with the program. They keep no
// state: each operation is judged by the operations before it that were executed.

// rivals tells whether two objects belong to competitors.
func rivals(firm, class []int, a, b int) bool {
	if firm[a] == -1 || firm[b] == -1 || firm[a] == firm[b] {
		return false
	}
	return class[firm[a]] == class[firm[b]]
}

// hasRead tells whether a subject has read an object.
func hasRead(done []api.Deed, who, thing int) bool {
	return slices.ContainsFunc(done, func(d api.Deed) bool {
		return d.Kind == api.BRead && d.By == who && d.To == thing
	})
}

// contains tells whether an object may contain the information of another one.
func contains(done []api.Deed, thing, source int) bool {
	if thing == source {
		return true
	}
	for i, d := range done {
		if d.Kind == api.BWrite && d.To == thing && knows(done[:i], d.By, source) {
			return true
		}
	}
	return false
}

// knows tells whether a subject knows the information of an object.
func knows(done []api.Deed, who, source int) bool {
	for i, d := range done {
		if d.By == who && d.Kind == api.BRead && contains(done[:i], d.To, source) {
			return true
		}
	}
	return false
}

func wantCode(who int, firm, class []int, done []api.Deed, d api.Deed) api.Errno {
	switch {
	case d.Kind != api.BRead && d.Kind != api.BWrite:
		return api.ErrKind
	case d.By < 0 || d.By >= who || d.To < 0 || d.To >= len(firm):
		return api.ErrArg
	}
	for thing := range firm {
		if !hasRead(done, d.By, thing) {
			continue
		}
		if d.Kind == api.BRead && rivals(firm, class, thing, d.To) {
			return api.ErrDeny
		}
		if d.Kind == api.BWrite && firm[thing] != -1 && firm[thing] != firm[d.To] {
			return api.ErrDeny
		}
	}
	return api.OK
}

func wantError(firm, class []int) api.Errno {
	if len(firm) > 8 || len(class) > 8 {
		return api.ErrLarge
	}
	for _, f := range firm {
		if f < -1 || f > len(class)-1 {
			return api.ErrArg
		}
	}
	return api.OK
}

// search returns what Play should return.
func search(who int, firm, class []int, script []api.Deed) (api.Walled, api.Errno) {
	var want api.Walled
	if who < 1 || who > 5 || len(script) > 30 {
		return want, api.ErrLarge
	}
	if e := wantError(firm, class); e != api.OK {
		return want, e
	}
	var done []api.Deed
	for _, d := range script {
		code := wantCode(who, firm, class, done, d)
		if code == api.OK {
			done = append(done, d)
		}
		want.Codes = append(want.Codes, code)
	}
	for by := range who {
		want.Read = append(want.Read, gather(len(firm), func(thing int) bool { return hasRead(done, by, thing) }))
	}
	for thing := range firm {
		want.From = append(want.From, gather(len(firm), func(source int) bool { return contains(done, thing, source) }))
	}
	return want, api.OK
}

// gather returns the set of the numbers below size of which is tells that they are elements.
func gather(size int, is func(number int) bool) uint32 {
	var set uint32
	for number := range size {
		if is(number) {
			set += 1 << number
		}
	}
	return set
}

func same(a, b api.Walled) bool {
	return slices.Equal(a.Codes, b.Codes) && slices.Equal(a.Read, b.Read) && slices.Equal(a.From, b.From)
}

// compare calls Play, holds its result against the search and against what the rules are for, and returns it.
func compare(t *testing.T, who int, firm, class []int, script []api.Deed) (api.Walled, api.Errno) {
	t.Helper()
	got, e := Play(who, firm, class, script)
	if want, err := search(who, firm, class, script); !same(got, want) || e != err {
		t.Fatalf("%d subjects, firms %v, classes %v, %v: %v %d, want %v %d", who, firm, class, script, got, e, want, err)
	}
	for a := range got.From {
		for b := range got.From {
			for by, set := range got.Read {
				if set>>a&1 == 1 && set>>b&1 == 1 && rivals(firm, class, a, b) {
					t.Fatalf("%d subjects, firms %v, classes %v, %v: subject %d has read %d and %d", who, firm, class, script, by, a, b)
				}
			}
			if got.From[a]>>b&1 == 1 && firm[b] != -1 && firm[b] != firm[a] {
				t.Fatalf("%d subjects, firms %v, classes %v, %v: object %d flows into %d", who, firm, class, script, b, a)
			}
		}
	}
	return got, e
}

// wantFewest tries all ways to share the objects that belong to firms out to subjects: share[set] is the fewest for a set of objects.
func wantFewest(firm, class []int) int {
	share := make([]int, 1<<len(firm))
	for set := 1; set < len(share); set++ {
		share[set] = len(firm)
		for part := set; part > 0; part = (part - 1) & set {
			if readable(firm, class, part) {
				share[set] = min(share[set], share[set&^part]+1)
			}
		}
	}
	var all int
	for thing, f := range firm {
		if f != -1 {
			all += 1 << thing
		}
	}
	return share[all]
}

// readable tells whether one subject can read all objects of a set.
func readable(firm, class []int, set int) bool {
	for a := range firm {
		for b := range firm {
			if set>>a&1 == 1 && set>>b&1 == 1 && rivals(firm, class, a, b) {
				return false
			}
		}
	}
	return true
}

func compareFewest(t *testing.T, firm, class []int) (int, api.Errno) {
	t.Helper()
	got, e := Fewest(firm, class)
	want, err := 0, wantError(firm, class)
	if err == api.OK {
		want = wantFewest(firm, class)
	}
	if got != want || e != err {
		t.Fatalf("firms %v, classes %v: fewest %d %d, want %d %d", firm, class, got, e, want, err)
	}
	return got, e
}

// eachList goes through all lists of that length of numbers from low to high.
func eachList(length, low, high int, visit func(list []int)) {
	list := slices.Repeat([]int{low}, length)
	for {
		visit(list)
		place := 0
		for place < length && list[place] == high {
			list[place] = low
			place++
		}
		if place == length {
			return
		}
		list[place]++
	}
}

// eachScript goes through all scripts of up to that many valid operations.
func eachScript(who, objects, length int, visit func(script []api.Deed)) {
	var all []api.Deed
	for by := range who {
		for to := range objects {
			all = append(all, read(by, to), write(by, to))
		}
	}
	for size := range length + 1 {
		if size > 0 && len(all) == 0 {
			return
		}
		eachList(size, 0, len(all)-1, func(list []int) {
			var script []api.Deed
			for _, number := range list {
				script = append(script, all[number])
			}
			visit(script)
		})
	}
}

// TestAllShortScripts goes through all short scripts of one and of two subjects, with all firms and classes of a small choice.
func TestAllShortScripts(t *testing.T) {
	for _, c := range []struct{ who, objects, firms, length int }{{1, 0, 1, 2}, {1, 1, 1, 5}, {1, 2, 2, 4}, {1, 3, 2, 4}, {1, 3, 3, 3}, {1, 4, 3, 2}, {2, 2, 2, 3}, {2, 3, 2, 2}} {
		eachList(c.firms, 0, c.firms-1, func(class []int) {
			eachList(c.objects, -1, c.firms-1, func(firm []int) {
				eachScript(c.who, c.objects, c.length, func(script []api.Deed) {
					compare(t, c.who, firm, class, script)
				})
			})
		})
	}
}

// TestAllScriptsThatAreNotDenied goes through longer scripts, in which information takes several steps: all objects are of one firm, or of nobody.
func TestAllScriptsThatAreNotDenied(t *testing.T) {
	for _, c := range []struct{ who, objects, length int }{{1, 2, 6}, {1, 3, 5}, {2, 3, 4}, {3, 2, 4}} {
		for f := -1; f < 1; f++ {
			firm := slices.Repeat([]int{f}, c.objects)
			eachScript(c.who, c.objects, c.length, func(script []api.Deed) {
				got, _ := compare(t, c.who, firm, []int{0}, script)
				if slices.ContainsFunc(got.Codes, func(code api.Errno) bool { return code != api.OK }) {
					t.Fatalf("firm %d, %v: %v", f, script, got.Codes)
				}
			})
		}
	}
}

// TestAllFewest goes through all objects, valid or not, of up to 4 firms, and through more firms with one object each.
func TestAllFewest(t *testing.T) {
	for firms := range 5 {
		for objects := range 5 {
			eachList(firms, 0, max(firms-1, 0), func(class []int) {
				eachList(objects, -2, firms, func(firm []int) { compareFewest(t, firm, class) })
			})
		}
	}
	eachList(6, 0, 2, func(class []int) { compareFewest(t, []int{0, 1, 2, 3, 4, 5}, class) })
	eachList(api.MaxObj, 0, 1, func(class []int) { compareFewest(t, []int{0, 1, 2, 3, 4, 5, 6, 7}, class) })
}

// TestAllReadsOfOneSubject lets one subject read all objects of a set, which it can exactly if they are readable together.
func TestAllReadsOfOneSubject(t *testing.T) {
	eachList(3, 0, 2, func(class []int) {
		eachList(5, -1, 2, func(firm []int) {
			for set := range 1 << len(firm) {
				var script []api.Deed
				for thing := range firm {
					if set>>thing&1 == 1 {
						script = append(script, read(0, thing))
					}
				}
				got, e := Play(1, firm, class, script)
				if can := !slices.Contains(got.Codes, api.ErrDeny); can != readable(firm, class, set) || can != (got.Read[0] == uint32(set)) || e != api.OK {
					t.Fatalf("firms %v, classes %v, set %d: %v %d", firm, class, set, got, e)
				}
			}
		})
	})
}

// sequence is a fixed sequence of numbers.
type sequence uint32

func (s *sequence) next(below int) int {
	*s = *s*1664525 + 1013904223
	return int(*s>>8) % below
}

// numbers returns a list of numbers from low on, below high.
func (s *sequence) numbers(length, low, high int) []int {
	list := make([]int, length)
	for i := range list {
		list[i] = low + s.next(high-low)
	}
	return list
}

// script returns operations, of which some are invalid, and all have fields that are not used.
func (s *sequence) script(length, subjects, objects int) []api.Deed {
	list := make([]api.Deed, length)
	for i := range list {
		list[i] = api.Deed{Kind: api.BRead + s.next(2), By: s.next(subjects), To: s.next(objects + 1)}
		if s.next(16) == 0 {
			list[i] = api.Deed{Kind: s.next(6) - 1, By: s.next(8) - 1, To: s.next(11) - 1}
		}
		list[i].Label, list[i].Val = api.Label{Level: s.next(9) - 3, Parts: uint32(s.next(99))}, s.next(99)-9
	}
	return list
}

// TestManyScripts mixes the numbers of a fixed sequence into scripts of all sizes.
func TestManyScripts(t *testing.T) {
	s := sequence(2236067)
	counts, flows := map[api.Errno]int{}, 0
	for round := range 30000 {
		who, objects, firms := 1+round%api.MaxWho, s.next(api.MaxObj+1), s.next(api.MaxObj+1)
		// Few firms let much flow, and many of few classes deny much.
		class, firm := s.numbers(firms, -2, 1+s.next(4)), s.numbers(objects, -1, s.next(firms+1))
		got, _ := compare(t, who, firm, class, s.script(s.next(api.MaxDeeds+1), who, objects))
		for _, code := range got.Codes {
			counts[code]++
		}
		for thing, set := range got.From {
			if set != 1<<thing {
				flows++
			}
		}
	}
	for _, code := range []api.Errno{api.OK, api.ErrKind, api.ErrArg, api.ErrDeny} {
		if counts[code] < 1000 {
			t.Errorf("only %d operations have code %d", counts[code], code)
		}
	}
	if flows < 5000 {
		t.Errorf("only %d objects have information of others", flows)
	}
}

// TestManyArguments mixes sizes and firms that are valid and invalid.
func TestManyArguments(t *testing.T) {
	s := sequence(1414213)
	counts, fewest := map[api.Errno]int{}, map[int]int{}
	for range 20000 {
		who, objects, firms, length := s.next(api.MaxWho+2), s.next(api.MaxObj+2), s.next(api.MaxObj+2), s.next(api.MaxDeeds+2)
		class, firm := s.numbers(firms, 0, 1+s.next(5)), s.numbers(objects, -1, firms)
		if objects > 0 && s.next(5) == 0 {
			firm[s.next(objects)] = s.next(12) - 2
		}
		_, e := compare(t, who, firm, class, s.script(length, 1+who, objects))
		counts[e]++
		number, _ := compareFewest(t, firm, class)
		fewest[number]++
	}
	for _, e := range []api.Errno{api.OK, api.ErrLarge, api.ErrArg} {
		if counts[e] < 1000 {
			t.Errorf("only %d lists have error %d", counts[e], e)
		}
	}
	for number := range 6 {
		if fewest[number] < 100 {
			t.Errorf("only %d lists need %d subjects", fewest[number], number)
		}
	}
}
