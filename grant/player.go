package grant

import "syllogist/api"

// player executes operations on a graph.
type player struct{ graph }

// execute executes an operation if it is valid and permitted, and returns its code.
func (p *player) execute(d api.Deed) api.Errno {
	if e := p.check(d); e != api.OK {
		return e
	}
	target, rights := d.Label.Level, d.Label.Parts
	switch d.Kind {
	case api.GTake:
		return p.take(d.By, d.To, target, rights)
	case api.GGrant:
		return p.grant(d.By, d.To, target, rights)
	case api.GMake:
		return p.create(d.By)
	default:
		return p.drop(d.By, d.To, rights)
	}
}

// check returns the code of an operation of which it is not yet asked whether it is permitted.
func (p *player) check(d api.Deed) api.Errno {
	valid := false
	switch d.Kind {
	case api.GTake:
		valid = p.apart(d.By, d.To) && p.apart(d.By, d.Label.Level)
	case api.GGrant:
		valid = p.apart(d.By, d.To) && p.apart(d.To, d.Label.Level)
	case api.GMake:
		valid = p.isVertex(d.By)
	case api.GDrop:
		valid = p.apart(d.By, d.To)
	default:
		return api.ErrKind
	}
	if !valid {
		return api.ErrArg
	}
	return api.OK
}

// take gives by the rights of to over target.
func (p *player) take(by, to, target int, rights uint32) api.Errno {
	if !p.has(by, to, api.RTake) || !p.has(to, target, rights) {
		return api.ErrDeny
	}
	p.add(by, target, rights)
	return api.OK
}

// grant gives to the rights of by over target.
func (p *player) grant(by, to, target int, rights uint32) api.Errno {
	if !p.has(by, to, api.RGrant) || !p.has(by, target, rights) {
		return api.ErrDeny
	}
	p.add(to, target, rights)
	return api.OK
}

// create makes a new vertex from which by may take, and to which it may grant.
func (p *player) create(by int) api.Errno {
	if p.n == most {
		return api.ErrLarge
	}
	p.n++
	p.add(by, p.n-1, api.RTake|api.RGrant)
	return api.OK
}

// drop takes the rights over to from by.
func (p *player) drop(by, to int, rights uint32) api.Errno {
	p.remove(by, to, rights)
	return api.OK
}
