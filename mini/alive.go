package mini

import (
	"winnower/api"
	"winnower/dfa"
)

// Alive tells from where an end is reached.
func Alive(d api.Dfa) []bool {
	if !dfa.Is(d) {
		return nil
	}
	from := backward(d)
	alive := make([]bool, len(d.Next))
	var open []int // those that were found, but not yet who leads to them
	find := func(state int) {
		if !alive[state] {
			alive[state] = true
			open = append(open, state)
		}
	}
	for state, ends := range d.Ends {
		if ends {
			find(state)
		}
	}
	for len(open) > 0 {
		last := len(open) - 1
		state := open[last]
		open = open[:last]
		for _, before := range from[state] {
			find(before)
		}
	}
	return alive
}

// backward is of each state all those that lead to it by a byte.
func backward(d api.Dfa) [][]int {
	from := make([][]int, len(d.Next))
	for state, row := range d.Next {
		for _, to := range row {
			if to != nowhere {
				from[to] = append(from[to], state)
			}
		}
	}
	return from
}
