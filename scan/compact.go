package scan

import (
	"slices"

	"winnower/api"
	"winnower/dfa"
)

// Compact is an automaton's table.
func Compact(d api.Dfa) (Table, api.Errno) {
	if !dfa.Is(d) {
		return Table{}, api.ErrArg
	}
	m := maker{from: d}
	m.Ends = slices.Clone(d.Ends)
	m.makeClasses()
	m.makeNext()
	return m.Table, api.OK
}

// maker is a Table that is being made of an automaton.
type maker struct {
	Table
	from  api.Dfa
	least []int // of each class its least byte
}

// makeClasses goes from the least byte up: a byte that is of no class yet is the least one of the next.
func (m *maker) makeClasses() {
	for b := range m.Class {
		n := slices.IndexFunc(m.least, func(other int) bool { return m.alike(other, b) })
		if n < 0 {
			n = len(m.least)
			m.least = append(m.least, b)
		}
		m.Class[b] = n
	}
}

// alike tells whether two bytes lead from each state to the same.
func (m *maker) alike(b, c int) bool {
	for state := range m.from.Next {
		row := &m.from.Next[state]
		if row[b] != row[c] {
			return false
		}
	}
	return true
}

func (m *maker) makeNext() {
	for _, row := range m.from.Next {
		small := make([]int, len(m.least))
		for class, b := range m.least {
			small[class] = row[b]
		}
		m.Next = append(m.Next, small)
	}
}
