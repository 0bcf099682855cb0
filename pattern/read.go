package pattern

import (
	"strings"

	"counterfoil/text"
)

const (
	mostBytes  = 200
	mostGroups = 8
	mostDigits = 2

	none rune = -1 // what is next at the end of a pattern

	taken        = `\^$.*+?()[]{}|` // signs that don't fit themselves
	escapes      = taken + "/-"
	classTaken   = `\[]^-`
	classEscapes = classTaken + "/."
)

// read is the pattern p; false, if it is none.
func read(p string) (group, bool) {
	if len(p) > mostBytes || !text.Valid(p) {
		return group{}, false
	}
	r := reader{signs: []rune(p)}
	whole, ok := r.group()
	return whole, ok && r.peek() == none
}

// reader goes through a pattern's signs. Each of its parts answers false where what is next is no such part.
type reader struct {
	signs []rune
	at    int
	open  int // groups that have begun and not ended
}

func (r *reader) peek() rune {
	if r.at == len(r.signs) {
		return none
	}
	return r.signs[r.at]
}

func (r *reader) next() rune {
	sign := r.peek()
	if sign != none {
		r.at++
	}
	return sign
}

// take goes over sign, if that is next.
func (r *reader) take(sign rune) bool {
	if r.peek() != sign {
		return false
	}
	r.at++
	return true
}

func (r *reader) group() (group, bool) {
	var g group
	for {
		row, ok := r.row()
		if !ok {
			return group{}, false
		}
		g.rows = append(g.rows, row)
		if !r.take('|') {
			return g, true
		}
	}
}

func (r *reader) row() ([]piece, bool) {
	var row []piece
	for r.peek() != none && r.peek() != '|' && r.peek() != ')' {
		p, ok := r.piece()
		if !ok {
			return nil, false
		}
		row = append(row, p)
	}
	return row, true
}

func (r *reader) piece() (piece, bool) {
	a, ok := r.atom()
	if !ok {
		return piece{}, false
	}
	least, most, ok := r.times(a)
	return piece{a, least, most}, ok
}

func (r *reader) times(a atom) (least, most int, ok bool) {
	switch {
	case r.take('*'):
		return 0, endless, true
	case r.take('+'):
		return 1, endless, true
	case r.take('?'):
		return 0, 1, true
	case a.countable() && r.take('{'):
		return r.bounds()
	}
	return 1, 1, true
}

// bounds is what stands behind {, with its }.
func (r *reader) bounds() (least, most int, ok bool) {
	least, ok = r.number()
	if !ok {
		return 0, 0, false
	}
	most = least
	if r.take(',') {
		most, ok = r.number()
		if !ok {
			most = endless
		}
	}
	return least, most, (most == endless || least <= most) && r.take('}')
}

// number leaves a digit that is one too many, which nothing that may come next takes.
func (r *reader) number() (int, bool) {
	number, from := 0, r.at
	for r.at < from+mostDigits && '0' <= r.peek() && r.peek() <= '9' {
		number = number*10 + int(r.next()-'0')
	}
	return number, r.at > from
}

func (r *reader) atom() (atom, bool) {
	switch sign := r.next(); sign {
	case '(':
		return r.inner()
	case '[':
		return r.class()
	case '\\':
		return r.escaped()
	case '.':
		return set{[]span{{'\n', '\n'}, {'\r', '\r'}}, true}, true
	default:
		return only(sign), !isOneOf(taken, sign)
	}
}

// inner is what stands behind (, with its ).
func (r *reader) inner() (group, bool) {
	if r.open == mostGroups {
		return group{}, false
	}
	r.open++
	g, ok := r.group()
	r.open--
	return g, ok && r.take(')')
}

// escaped is what stands behind \ outside of a class.
func (r *reader) escaped() (set, bool) {
	sign := r.next()
	if spans := named(sign); spans != nil {
		return set{spans, false}, true
	}
	if spans := named(sign - 'A' + 'a'); spans != nil {
		return set{spans, true}, true
	}
	return only(sign), isOneOf(escapes, sign)
}

// class is what stands behind [, with its ].
func (r *reader) class() (set, bool) {
	c := set{others: r.take('^')}
	for {
		spans, ok := r.item()
		if !ok {
			return set{}, false
		}
		c.spans = append(c.spans, spans...)
		if r.take(']') {
			return c, true
		}
	}
}

func (r *reader) item() ([]span, bool) {
	begin := r.at
	if r.take('\\') {
		if spans := named(r.next()); spans != nil {
			return spans, true
		}
	}
	r.at = begin
	first, ok := r.member()
	last := first
	if ok && r.take('-') {
		last, ok = r.member()
	}
	return []span{{first, last}}, ok && first <= last
}

// member is a sign of a class, told by itself or by \ ahead of it.
func (r *reader) member() (rune, bool) {
	sign := r.next()
	if sign == '\\' {
		sign = r.next()
		return sign, isOneOf(classEscapes, sign)
	}
	return sign, sign != none && !isOneOf(classTaken, sign)
}

// named is the signs that \ and letter tell; nothing, if it is none of the three small letters.
func named(letter rune) []span {
	switch letter {
	case 'd':
		return []span{{'0', '9'}}
	case 'w':
		return []span{{'a', 'z'}, {'A', 'Z'}, {'0', '9'}, {'_', '_'}}
	case 's':
		return []span{{'\t', '\n'}, {'\f', '\r'}, {' ', ' '}}
	}
	return nil
}

func only(sign rune) set { return set{spans: []span{{sign, sign}}} }

func isOneOf(signs string, sign rune) bool { return strings.ContainsRune(signs, sign) }
