package clause

import "syllogist/api"

// refuter derives clauses from those of a list that cannot be satisfied.
type refuter struct {
	numbers map[api.Clause]int // the first number of each clause that is given or derived
	next    int                // the number of the next resolvent
	pairs   [][2]int
}

// Refute returns pairs of clause numbers whose resolvents end with the empty clause.
func Refute(n int, l []api.Clause) ([][2]int, api.Errno) {
	if _, e := Solve(n, l); e == api.OK {
		return nil, api.ErrNone
	} else if e != api.ErrNone {
		return nil, e
	}
	r := refuter{numbers: map[api.Clause]int{}, next: len(l)}
	for i, c := range l {
		if _, found := r.numbers[c]; !found {
			r.numbers[c] = i
		}
	}
	r.exclude(0, 0)
	return r.pairs, api.OK
}

// exclude returns a clause of the first k variables that does not hold for their subset s, and derives it if it must.
// Once all variables are decided, there is such a clause, as no set satisfies the list.
func (r *refuter) exclude(k int, s uint32) api.Clause {
	if c, found := r.find(k, s); found {
		return c
	}
	bit := uint32(1) << k
	without := r.exclude(k+1, s)
	if without.Yes&bit == 0 {
		return without
	}
	with := r.exclude(k+1, s|bit)
	if with.No&bit == 0 {
		return with
	}
	return r.resolve(without, with, bit)
}

// find returns a known clause of the first k variables that does not hold for their subset s, if there is one:
// in such a clause, the variables of s can only be in No, and the other ones only in Yes.
func (r *refuter) find(k int, s uint32) (api.Clause, bool) {
	for part := range uint32(1) << k {
		c := api.Clause{Yes: part &^ s, No: part & s}
		if _, found := r.numbers[c]; found {
			return c, true
		}
	}
	return api.Clause{}, false
}

// resolve derives the resolvent of two clauses on a variable.
// No other variable can be chosen: one set decides all others, and neither clause holds for it.
func (r *refuter) resolve(yes, no api.Clause, bit uint32) api.Clause {
	c := api.Clause{Yes: yes.Yes&^bit | no.Yes, No: yes.No | no.No&^bit}
	r.pairs = append(r.pairs, [2]int{r.numbers[yes], r.numbers[no]})
	r.numbers[c] = r.next
	r.next++
	return c
}
