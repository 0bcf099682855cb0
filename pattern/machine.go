package pattern

import "slices"

// machine is a pattern as states. All that a text may have led to are gone on with at once: so the time grows with the text, not with the number of ways in which it may be cut.
type machine struct {
	states []state
	first  int
}

// state leads to those that are next: over a sign of signs, if it eats, or else over nothing.
type state struct {
	eats  bool
	signs set
	next  []int
}

// end is the state that the whole text has to lead to.
const end = 0

func build(whole group) *machine {
	m := &machine{states: []state{{}}}
	m.first = m.addGroup(whole, end)
	return m
}

// add, and all that call it, answer the state with which what was added begins. What it leads to is there already, so a pattern is added from its end on.
func (m *machine) add(s state) int {
	m.states = append(m.states, s)
	return len(m.states) - 1
}

func (m *machine) addGroup(g group, next int) int {
	var begins []int
	for _, row := range g.rows {
		begins = append(begins, m.addRow(row, next))
	}
	return m.add(state{next: begins})
}

func (m *machine) addRow(row []piece, next int) int {
	for i := len(row) - 1; i >= 0; i-- {
		next = m.addPiece(row[i], next)
	}
	return next
}

func (m *machine) addPiece(p piece, next int) int {
	if p.most == endless {
		return m.addLoop(p, next)
	}
	begin := next
	for range p.most - p.least {
		begin = m.add(state{next: []int{m.addAtom(p.atom, begin), next}})
	}
	return m.addTimes(p.atom, p.least, begin)
}

// addLoop takes the loop's own atom for one of the least: so a group, whose least is 1 at most, is added once. Groups within groups would double all that is in them else.
func (m *machine) addLoop(p piece, next int) int {
	loop := m.add(state{})
	inner := m.addAtom(p.atom, loop)
	m.states[loop].next = []int{inner, next}
	if p.least == 0 {
		return loop
	}
	return m.addTimes(p.atom, p.least-1, inner)
}

func (m *machine) addTimes(a atom, times, next int) int {
	for range times {
		next = m.addAtom(a, next)
	}
	return next
}

func (m *machine) addAtom(a atom, next int) int {
	if g, ok := a.(group); ok {
		return m.addGroup(g, next)
	}
	return m.add(state{eats: true, signs: a.(set), next: []int{next}})
}

// fits hands out a byte of s that begins no sign as FFFD, by the range.
func (m *machine) fits(s string) bool {
	w := walk{states: m.states, seen: make([]int, len(m.states))}
	w.begin([]int{m.first})
	for _, sign := range s {
		w.over(sign)
	}
	return slices.Contains(w.live, end)
}

// walk is how far a text has led so far. Its lists are used again from sign to sign, as new ones for each would take longer than all else.
type walk struct {
	states []state
	live   []int // where the text may have led, each state once
	behind []int // where the next sign leads from there
	seen   []int // by state: the last round in which it was live
	round  int
}

func (w *walk) over(sign rune) {
	w.behind = w.behind[:0]
	for _, at := range w.live {
		if s := &w.states[at]; s.eats && s.signs.has(sign) {
			w.behind = append(w.behind, s.next...)
		}
	}
	w.begin(w.behind)
}

// begin makes live what is in states, and all that this leads to over nothing.
func (w *walk) begin(states []int) {
	w.round++
	w.live = w.live[:0]
	w.put(states)
	for i := 0; i < len(w.live); i++ { // what is put meanwhile is gone through too
		if s := &w.states[w.live[i]]; !s.eats {
			w.put(s.next)
		}
	}
}

func (w *walk) put(states []int) {
	for _, at := range states {
		if w.seen[at] != w.round {
			w.seen[at] = w.round
			w.live = append(w.live, at)
		}
	}
}
