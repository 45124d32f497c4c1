package syntax

import "rexmill/api"

// group reads an atom that begins with (.
func (r *reader) group() api.Re {
	offset := r.offset()
	r.at++
	if !r.take('?') {
		r.caps++
		n := r.caps
		if n > api.MaxCaps {
			r.note(offset, tooManyCaps, api.ErrLimit)
		}
		return r.inside(api.Re{Op: api.OpCap, N: n})
	}
	c := r.peek()
	switch c {
	case ':', '>', '=', '!':
		r.at++
		if c == ':' {
			re := r.alt()
			r.expect(')')
			return re
		}
		if c == '>' {
			return r.inside(api.Re{Op: api.OpAtom})
		}
		return r.inside(api.Re{Op: api.OpAhead, Neg: c == '!'})
	case '<':
		r.at++
		return r.angle()
	case '(':
		r.at++
		return r.cond(offset)
	case 'i', 's', 'm', '-':
		return r.flagged()
	}
	r.fail()
	return api.Re{}
}

// inside reads the rest of a group, which becomes the kid of a node.
func (r *reader) inside(node api.Re) api.Re {
	node.Kids = []api.Re{r.alt()}
	r.expect(')')
	return node
}

// angle reads the rest of a group that begins with (?<.
func (r *reader) angle() api.Re {
	if r.take('=') {
		return r.inside(api.Re{Op: api.OpBehind})
	}
	if r.take('!') {
		return r.inside(api.Re{Op: api.OpBehind, Neg: true})
	}
	n := r.digit()
	r.expect('>')
	r.caps = max(r.caps, n)
	return r.inside(api.Re{Op: api.OpCap, N: n})
}

// cond reads the rest of a conditional group.
func (r *reader) cond(offset int) api.Re {
	n := r.digit()
	r.expect(')')
	r.names = append(r.names, name{offset, n})
	yes := r.cat()
	r.expect('|')
	no := r.cat()
	r.expect(')')
	return api.Re{Op: api.OpCond, N: n, Kids: []api.Re{yes, no}}
}

// letters reads letters of flags, and switches these on or off.
func (r *reader) letters(on bool) int {
	for n := 0; ; n++ {
		switch r.peek() {
		case 'i':
			r.Fold = on
		case 's':
			r.Dot = on
		case 'm':
			r.Multi = on
		default:
			return n
		}
		r.at++
	}
}

// flagged reads the rest of a group with flags, after which those from before it are in force again.
func (r *reader) flagged() api.Re {
	kept := r.Flags
	r.letters(true)
	if r.take('-') && r.letters(false) == 0 {
		r.fail()
	}
	r.expect(':')
	re := r.alt()
	r.expect(')')
	r.Flags = kept
	return re
}
