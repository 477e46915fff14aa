package solve

// record is clauses, one after the other. It takes less room than a list of them, which most often is not asked for.
type record struct {
	literals []literal
	ends     []int // by clause: how many literals there are up to its end
}

// add appends a clause.
func (r *record) add(c []literal) {
	r.literals = append(r.literals, c...)
	r.ends = append(r.ends, len(r.literals))
}

// clauses returns the clauses as lists of numbers.
func (r *record) clauses() [][]int {
	all := make([][]int, len(r.ends))
	start := 0
	for i, end := range r.ends {
		all[i] = make([]int, 0, end-start)
		for _, x := range r.literals[start:end] {
			all[i] = append(all[i], x.number())
		}
		start = end
	}
	return all
}
