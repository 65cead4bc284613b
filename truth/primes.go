package truth

import (
	"cmp"
	"slices"

	"syllogist/api"
)

// products is a set of products that all have the same number of variables.
type products map[api.Clause]bool

// Primes returns the prime implicants of f in increasing order of Yes and then of No.
func Primes(n int, f []bool) ([]api.Clause, api.Errno) {
	if e := check(n, f); e != api.OK {
		return nil, e
	}
	var primes []api.Clause
	for level := full(f); len(level) > 0; {
		prime, shorter := omit(n, level)
		primes = append(primes, prime...)
		level = shorter
	}
	slices.SortFunc(primes, func(a, b api.Clause) int {
		return cmp.Or(cmp.Compare(a.Yes, b.Yes), cmp.Compare(a.No, b.No))
	})
	return primes, api.OK
}

// full returns the products of all variables that are true only where f is true: one for each such set.
func full(f []bool) products {
	level := products{}
	for s, value := range f {
		if value {
			level[api.Clause{Yes: uint32(s), No: uint32(len(f) - 1 - s)}] = true
		}
	}
	return level
}

// omit takes all implicants with some number of variables, and returns those of them from which no variable can be
// omitted, in no order, and all implicants with one variable fewer.
// A product without a variable is true where the products with it and with its negation are, so that it is an
// implicant if both of these are.
func omit(n int, level products) ([]api.Clause, products) {
	var primes []api.Clause
	shorter := products{}
	for product := range level {
		prime := true
		for variable := range n {
			bit := uint32(1) << variable
			// A variable that the product lacks would be in both words of this one, as in no product of the level.
			opposite := api.Clause{Yes: product.Yes ^ bit, No: product.No ^ bit}
			if level[opposite] {
				prime = false
				shorter[api.Clause{Yes: product.Yes &^ bit, No: product.No &^ bit}] = true
			}
		}
		if prime {
			primes = append(primes, product)
		}
	}
	return primes, shorter
}
