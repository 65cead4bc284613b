package lattice

import (
	"syllogist/api"
	"syllogist/order"
)

// lattice holds the up-sets of a lattice, and the join and the meet of each two things.
type lattice struct {
	up           []uint32
	joins, meets [][]int
}

// Shared tells whether a lattice is distributive.
func Shared(n int, pairs [][2]int) (bool, api.Errno) {
	l, e := read(n, pairs)
	if e != api.OK {
		return false, e
	}
	return l.always(l.distributes), api.OK
}

// Modular tells whether a lattice is distributive where the third thing is below the first.
func Modular(n int, pairs [][2]int) (bool, api.Errno) {
	l, e := read(n, pairs)
	if e != api.OK {
		return false, e
	}
	return l.always(func(a, b, c int) bool { return !has(l.up[c], a) || l.distributes(a, b, c) }), api.OK
}

// Irreducible returns the set of the things that are not below all others and are the join only of two things of which one is the thing itself.
func Irreducible(n int, pairs [][2]int) (uint32, api.Errno) {
	l, e := read(n, pairs)
	if e != api.OK {
		return 0, e
	}
	all := choose(n, func(int) bool { return true })
	return choose(n, func(a int) bool { return l.up[a] != all && !l.isJoined(a) }), api.OK
}

// read builds the lattice that pairs describe.
func read(n int, pairs [][2]int) (lattice, api.Errno) {
	up, e := order.Table(n, pairs)
	if e != api.OK {
		return lattice{}, e
	}
	return build(up)
}

// build finds all joins and meets, or tells by ErrForm that one is missing.
func build(up []uint32) (lattice, api.Errno) {
	joins, e := bounds(up)
	if e != api.OK {
		return lattice{}, api.ErrForm
	}
	meets, e := bounds(reverse(up))
	if e != api.OK {
		return lattice{}, api.ErrForm
	}
	return lattice{up, joins, meets}, api.OK
}

// bounds returns the bound of each two things, by the table that bound takes.
func bounds(table []uint32) ([][]int, api.Errno) {
	rows := make([][]int, len(table))
	for a := range rows {
		rows[a] = make([]int, len(table))
		for b := range rows[a] {
			c, e := bound(table, a, b)
			if e != api.OK {
				return nil, e
			}
			rows[a][b] = c
		}
	}
	return rows, api.OK
}

// distributes tells whether the meet of a with the join of b and c is the join of the meets of a with each.
func (l lattice) distributes(a, b, c int) bool {
	return l.meets[a][l.joins[b][c]] == l.joins[l.meets[a][b]][l.meets[a][c]]
}

// always tells whether something holds for any three things.
func (l lattice) always(holds func(a, b, c int) bool) bool {
	for a := range l.up {
		for b := range l.up {
			for c := range l.up {
				if !holds(a, b, c) {
					return false
				}
			}
		}
	}
	return true
}

// isJoined tells whether a thing is the join of two others.
func (l lattice) isJoined(a int) bool {
	for b := range l.up {
		for c := range l.up {
			if b != a && c != a && l.joins[b][c] == a {
				return true
			}
		}
	}
	return false
}
