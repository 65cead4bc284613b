package grant

import "syllogist/api"

// writer writes operations down, and executes them.
type writer struct {
	player
	script []api.Deed
}

// carry brings a right over y from the first vertex of a path, who has it, to the last one.
// It is put into a box, and the right to take from the box is passed along the path instead: y may be on the path, and nobody can have a right over oneself.
func (w *writer) carry(path []int, y int, right uint32) {
	first, last := path[0], path[len(path)-1]
	box := w.writeMake(first)
	w.write(api.GGrant, first, box, y, right)
	for i, v := range path[1:] {
		w.pass(path[i], v, box)
	}
	w.write(api.GTake, last, box, y, right)
}

// pass brings the right to take from box from a vertex to one that is linked to it.
func (w *writer) pass(from, to, box int) {
	if w.has(to, from, api.RTake) {
		w.write(api.GTake, to, from, box, api.RTake)
		return
	}
	if w.has(from, to, api.RGrant) {
		w.write(api.GGrant, from, to, box, api.RTake)
		return
	}
	// Their link leads the wrong way, but it brings from the right to grant to a new vertex, from which to may take.
	post := w.writeMake(to)
	if w.has(from, to, api.RTake) {
		w.write(api.GTake, from, to, post, api.RGrant)
	} else {
		w.write(api.GGrant, to, from, post, api.RGrant)
	}
	w.write(api.GGrant, from, post, box, api.RTake)
	w.write(api.GTake, to, post, box, api.RTake)
}

// writeMake lets by make a new vertex, and returns its number.
func (w *writer) writeMake(by int) int {
	w.do(api.Deed{Kind: api.GMake, By: by})
	return w.n - 1
}

// write lets by take rights over target from to, or grant them to it.
func (w *writer) write(kind, by, to, target int, rights uint32) {
	w.do(api.Deed{Kind: kind, By: by, To: to, Label: api.Label{Level: target, Parts: rights}})
}

// do executes an operation, which is always permitted, and writes it down.
func (w *writer) do(d api.Deed) {
	w.execute(d)
	w.script = append(w.script, d)
}
