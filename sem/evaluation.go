package sem

import (
	"slices"

	"rexmill/api"
	"rexmill/text"
)

// rest is what is still to be matched: a closure, and what comes after it. A closure returns false if there is no result.
type rest struct {
	do   func() bool
	next *rest
}

// choice is where the evaluation goes on when there are no further results of what comes before.
type choice struct {
	at   int
	caps []int
	rest *rest
}

// evaluation goes through the results of a tree, in order. Captures are never changed, but copied.
type evaluation struct {
	pattern api.Pattern
	text    []int
	fuel    int
	steps   int
	over    bool // more steps than fuel are needed
	ops     map[int]func(*evaluation, api.Re) bool
	at      int
	caps    []int // from and to of each capture
	rest    *rest
	choices []choice
}

func newEvaluation(p api.Pattern, text []int, fuel int) *evaluation {
	return &evaluation{pattern: p, text: text, fuel: fuel, ops: operations()}
}

// operations returns how each operation is evaluated.
func operations() map[int]func(*evaluation, api.Re) bool {
	return map[int]func(*evaluation, api.Re) bool{
		api.OpEmpty:  (*evaluation).empty,
		api.OpSet:    (*evaluation).set,
		api.OpCat:    (*evaluation).cat,
		api.OpAlt:    (*evaluation).alt,
		api.OpRep:    (*evaluation).rep,
		api.OpCap:    (*evaluation).capture,
		api.OpRef:    (*evaluation).ref,
		api.OpAhead:  (*evaluation).ahead,
		api.OpBehind: (*evaluation).behind,
		api.OpAtom:   (*evaluation).atom,
		api.OpCond:   (*evaluation).cond,
		api.OpAssert: (*evaluation).assert,
	}
}

// matches returns the first matches at a position.
func (e *evaluation) matches(at, most int) []api.Match {
	var l []api.Match
	e.each(at, func(m api.Match) bool {
		l = append(l, m)
		return len(l) < most
	})
	return l
}

// each calls a function for each match at a position, as long as it returns true.
func (e *evaluation) each(at int, do func(api.Match) bool) {
	e.at, e.choices = at, e.choices[:0]
	e.caps = slices.Repeat([]int{-1}, 2*e.pattern.Caps)
	e.rest = nil
	e.push(e.begin(e.pattern.Re))
	for found := e.search(0); found; found = e.back(0) && e.search(0) {
		m := api.Match{Start: at, End: e.at}
		for i := 0; i < len(e.caps); i += 2 {
			m.Caps = append(m.Caps, [2]int{e.caps[i], e.caps[i+1]})
		}
		if !do(m) {
			return
		}
	}
}

// push puts something in front of what is still to be matched.
func (e *evaluation) push(do func() bool) {
	e.rest = &rest{do, e.rest}
}

// choose lets the evaluation go on here with something else later.
func (e *evaluation) choose(r *rest) {
	e.choices = append(e.choices, choice{e.at, e.caps, r})
}

// search goes on until nothing is left to be matched; false: there is no result before the choices below base.
func (e *evaluation) search(base int) bool {
	for e.rest != nil {
		do := e.rest.do
		e.rest = e.rest.next
		good := do()
		if e.over || !good && !e.back(base) {
			return false
		}
	}
	return true
}

// back returns to the last choice that is not below base.
func (e *evaluation) back(base int) bool {
	n := len(e.choices)
	if n == base {
		return false
	}
	c := e.choices[n-1]
	e.choices = e.choices[:n-1]
	e.at, e.caps, e.rest = c.at, c.caps, c.rest
	return true
}

// first looks for the first result of a part alone, at a position; if there is one, the evaluation is at its end, with its captures.
func (e *evaluation) first(at int, part *rest) bool {
	from, caps, after := e.at, e.caps, e.rest
	base := len(e.choices)
	e.at, e.rest = at, part
	found := e.search(base)
	e.choices = e.choices[:base]
	e.rest = after
	if !found {
		e.at, e.caps = from, caps
	}
	return found
}

// step counts a step; false: it is one too many.
func (e *evaluation) step() bool {
	if e.steps == e.fuel {
		e.over = true
		return false
	}
	e.steps++
	return true
}

// begin returns the beginning of the results of a tree.
func (e *evaluation) begin(re api.Re) func() bool {
	op := e.ops[re.Op]
	return func() bool {
		return (re.Op == api.OpRep || e.step()) && op(e, re)
	}
}

func (e *evaluation) empty(api.Re) bool {
	return true
}

func (e *evaluation) set(re api.Re) bool {
	if e.at == len(e.text) {
		return false
	}
	s := e.text[e.at]
	for _, span := range re.Set {
		if span.Lo <= s && s <= span.Hi {
			e.at++
			return true
		}
	}
	return false
}

func (e *evaluation) assert(re api.Re) bool {
	return text.Assert(re.N, e.text, e.at)
}

func (e *evaluation) cat(re api.Re) bool {
	for _, kid := range slices.Backward(re.Kids) {
		e.push(e.begin(kid))
	}
	return true
}

func (e *evaluation) alt(re api.Re) bool {
	for _, kid := range slices.Backward(re.Kids[1:]) {
		e.choose(&rest{e.begin(kid), e.rest})
	}
	e.push(e.begin(re.Kids[0]))
	return true
}

func (e *evaluation) capture(re api.Re) bool {
	from := e.at
	e.push(func() bool {
		e.caps = slices.Clone(e.caps)
		e.caps[2*re.N-2], e.caps[2*re.N-1] = from, e.at
		return true
	})
	e.push(e.begin(re.Kids[0]))
	return true
}

func (e *evaluation) ref(re api.Re) bool {
	from, to := e.caps[2*re.N-2], e.caps[2*re.N-1]
	m := to - from
	if from < 0 || m > len(e.text)-e.at || !slices.Equal(e.text[from:to], e.text[e.at:e.at+m]) {
		return false
	}
	e.at += m
	return true
}

func (e *evaluation) ahead(re api.Re) bool {
	at, caps := e.at, e.caps
	found := e.first(at, &rest{do: e.begin(re.Kids[0])})
	e.at = at
	if re.Neg {
		e.caps = caps
	}
	return found != re.Neg && !e.over
}

func (e *evaluation) behind(re api.Re) bool {
	at, caps := e.at, e.caps
	ends := &rest{do: func() bool { return e.at == at }}
	found := false
	for s := at; s >= 0 && !found && !e.over; s-- {
		found = e.first(s, &rest{e.begin(re.Kids[0]), ends})
	}
	if re.Neg {
		e.caps = caps
	}
	return found != re.Neg && !e.over
}

func (e *evaluation) atom(re api.Re) bool {
	return e.first(e.at, &rest{do: e.begin(re.Kids[0])})
}

func (e *evaluation) cond(re api.Re) bool {
	if e.caps[2*re.N-2] >= 0 {
		e.push(e.begin(re.Kids[0]))
	} else {
		e.push(e.begin(re.Kids[1]))
	}
	return true
}

func (e *evaluation) rep(re api.Re) bool {
	if re.Mode == api.Possessive {
		return e.first(e.at, &rest{do: e.round(re, 0)})
	}
	e.push(e.round(re, 0))
	return true
}

// round returns the beginning of R(k) of a repetition.
func (e *evaluation) round(re api.Re, k int) func() bool {
	return func() bool {
		if !e.step() {
			return false
		}
		kid := e.begin(re.Kids[0])
		if k < re.Min {
			e.push(e.round(re, k+1))
			e.push(kid)
			return true
		}
		if re.Max >= 0 && k == re.Max {
			return true
		}
		from := e.at
		onward := &rest{func() bool { return e.at != from }, &rest{e.round(re, k+1), e.rest}}
		more := &rest{kid, onward}
		if re.Mode == api.Lazy {
			e.choose(more)
			return true
		}
		e.choose(e.rest)
		e.rest = more
		return true
	}
}
