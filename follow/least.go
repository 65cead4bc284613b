package follow

import (
	"slices"

	"syllogist/api"
)

// Least returns an equivalent list of implications to single things, in which nothing can be omitted.
func Least(n int, rules []api.Rule) ([]api.Rule, api.Errno) {
	if e := check(n, rules); e != api.OK {
		return nil, e
	}
	least := split(rules)
	for i, rule := range least {
		least[i] = shorten(rules, rule)
	}
	// An implication that was shortened may make another one needless, so this comes last.
	return prune(least), api.OK
}

// split returns the same implications, each to one thing that is not in its If.
func split(rules []api.Rule) []api.Rule {
	var single []api.Rule
	for _, rule := range rules {
		for thing := range api.MaxPart {
			if only(thing)&rule.Then&^rule.If != 0 {
				single = append(single, api.Rule{If: rule.If, Then: only(thing)})
			}
		}
	}
	return single
}

// shorten omits elements of If as long as the implication still follows.
// One pass is enough: what a set needs, its subsets need as well.
func shorten(rules []api.Rule, r api.Rule) api.Rule {
	for thing := range api.MaxPart {
		shorter := api.Rule{If: r.If &^ only(thing), Then: r.Then}
		if follows(rules, shorter) {
			r = shorter
		}
	}
	return r
}

// prune omits the implications that follow from the others that are left.
func prune(rules []api.Rule) []api.Rule {
	for i := len(rules) - 1; i >= 0; i-- {
		others := slices.Concat(rules[:i], rules[i+1:])
		if follows(others, rules[i]) {
			rules = others
		}
	}
	return rules
}
