package choice

import "syllogist/api"

// builder collects the nodes of a diagram, and knows the number of each.
type builder struct {
	nodes   []api.Branch
	numbers map[api.Branch]int
}

// node returns the number of a node, which is new only if there is none like it.
// A node that leads to one number whatever its variable is has no part in a canonical diagram: that number is returned.
func (b *builder) node(branch api.Branch) int {
	if branch.Low == branch.High {
		return branch.Low
	}
	number, known := b.numbers[branch]
	if !known {
		number = firstNode + len(b.nodes)
		b.nodes = append(b.nodes, branch)
		b.numbers[branch] = number
	}
	return number
}

// tableBuilder builds the diagram of a table.
type tableBuilder struct {
	builder
	n int
	f []bool
}

// build returns the number of what decides the variables from this one on, where set has those of the others that
// are true. It collects Low's nodes before High's, and a node after both, as a traversal of the diagram finishes them.
func (b *tableBuilder) build(variable, set int) int {
	if variable == b.n {
		if b.f[set] {
			return 1
		}
		return 0
	}
	low := b.build(variable+1, set)
	high := b.build(variable+1, set|1<<variable)
	return b.node(api.Branch{Var: variable, Low: low, High: high})
}
