package mini

import "winnower/api"

// parting is the states of an automaton in blocks: states of different blocks are told apart by a text, those of one block by none that was looked at so far.
type parting struct {
	api.Dfa
	block []int // of each state its block
	first []int // of each block its first state
}

// begin parts those at which one may end from all others.
func begin(d api.Dfa) *parting {
	p := &parting{Dfa: d, block: make([]int, len(d.Next))}
	p.part(func(a, b int) bool { return d.Ends[a] == d.Ends[b] })
	return p
}

// split parts each block into states that lead to the same blocks; false, if none was parted: no text tells those of one block apart.
func (p *parting) split() bool {
	blocks := len(p.first)
	p.part(p.alike)
	return len(p.first) > blocks
}

// part parts each block into states that are alike.
func (p *parting) part(alike func(a, b int) bool) {
	var first []int
	block := make([]int, len(p.block))
	for state := range block {
		n := 0
		for n < len(first) && !(p.block[first[n]] == p.block[state] && alike(first[n], state)) {
			n++
		}
		if n == len(first) {
			first = append(first, state)
		}
		block[state] = n
	}
	p.first, p.block = first, block
}

// alike tells whether two states lead by each byte to the same block.
func (p *parting) alike(a, b int) bool {
	for c, to := range p.Next[a] {
		if p.at(to) != p.at(p.Next[b][c]) {
			return false
		}
	}
	return true
}

// at is the block of where a byte leads.
func (p *parting) at(to int) int {
	if to == nowhere {
		return nowhere
	}
	return p.block[to]
}

// numbered is the blocks as states, as they are met from state 0 on, of each by bytes, rising.
func (p *parting) numbered() api.Dfa {
	var d api.Dfa
	number := make([]int, len(p.first)) // of each block its state, nowhere if it was not met yet
	for n := range number {
		number[n] = nowhere
	}
	number[p.block[0]] = 0
	met := []int{p.block[0]}
	// More blocks are met while this goes on.
	for n := 0; n < len(met); n++ {
		state := p.first[met[n]]
		row := p.Next[state]
		for c, to := range row {
			if to == nowhere {
				continue
			}
			block := p.block[to]
			if number[block] == nowhere {
				number[block] = len(met)
				met = append(met, block)
			}
			row[c] = number[block]
		}
		d.Next = append(d.Next, row)
		d.Ends = append(d.Ends, p.Ends[state])
	}
	return d
}
