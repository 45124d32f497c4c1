package oracle

import (
	"iter"
	"slices"

	"rexmill/api"
	"rexmill/sets"
	"rexmill/text"
)

// insn is an instruction. One with a set reads a symbol; one with the function pass leads to the next one where that is true; all others lead to those in to, in the order of preference. The last instruction of a program, which has none of these, is its end.
type insn struct {
	reads bool
	set   []api.Span
	pass  func(at int) bool
	to    []int
	save  int // 1 plus the register that becomes the position, or 0
}

// writer writes the instructions of a tree for a text.
type writer struct {
	insns []insn
	text  []int
	bits  [][]bool // of the look-around parts
	looks int      // the next look-around part
}

// all writes the instructions of a tree, and the end.
func (w *writer) all(re api.Re) {
	w.tree(re)
	w.insns = append(w.insns, insn{})
}

// put appends an instruction, and returns its number.
func (w *writer) put(x insn) int {
	w.insns = append(w.insns, x)
	return len(w.insns) - 1
}

// tree writes the instructions of a tree. A repetition writes its kid several times, with the same look-around parts.
func (w *writer) tree(re api.Re) {
	switch re.Op {
	case api.OpSet:
		w.put(insn{reads: true, set: re.Set})
	case api.OpAssert:
		w.put(insn{pass: func(at int) bool { return text.Assert(re.N, w.text, at) }})
	case api.OpAhead, api.OpBehind:
		part := w.bits[w.looks]
		w.put(insn{pass: func(at int) bool { return part[at] }})
		w.looks += len(looks(re))
	case api.OpCat:
		for _, kid := range re.Kids {
			w.tree(kid)
		}
	case api.OpAlt:
		w.alt(re.Kids)
	case api.OpCap:
		n := len(w.insns)
		w.put(insn{save: 2*re.N - 1, to: []int{n + 1}})
		w.tree(re.Kids[0])
		n = len(w.insns)
		w.put(insn{save: 2 * re.N, to: []int{n + 1}})
	case api.OpRep:
		w.repeat(re)
	}
}

func (w *writer) alt(kids []api.Re) {
	var jumps []int
	for _, kid := range kids[:len(kids)-1] {
		split := w.put(insn{})
		w.tree(kid)
		jumps = append(jumps, w.put(insn{}))
		w.insns[split].to = []int{split + 1, len(w.insns)}
	}
	w.tree(kids[len(kids)-1])
	for _, at := range jumps {
		w.insns[at].to = []int{len(w.insns)}
	}
}

func (w *writer) repeat(re api.Re) {
	first := w.looks
	kid := func() {
		w.looks = first
		w.tree(re.Kids[0])
	}
	for range re.Min {
		kid()
	}
	var splits []int
	split := func() {
		splits = append(splits, w.put(insn{}))
		kid()
	}
	if re.Max == -1 {
		split()
		w.put(insn{to: []int{splits[0]}})
	}
	for range re.Max - re.Min {
		split()
	}
	for _, at := range splits {
		to := []int{at + 1, len(w.insns)}
		if re.Mode == api.Lazy {
			slices.Reverse(to)
		}
		w.insns[at].to = to
	}
}

// positions yields the positions of a text, in one of both directions.
func positions(n int, back bool) iter.Seq[int] {
	return func(yield func(int) bool) {
		for i := range n + 1 {
			at := i
			if back {
				at = n - i
			}
			if !yield(at) {
				return
			}
		}
	}
}

// next returns where an instruction that reads nothing leads at a position.
func (w *writer) next(n, at int) []int {
	x := &w.insns[n]
	if x.pass != nil && x.pass(at) {
		return []int{n + 1}
	}
	return x.to
}

// backward tells for each position whether a way leads from there to the end of the program.
func (w *writer) backward(txt []int) []bool {
	out := make([]bool, len(txt)+1)
	end := len(w.insns) - 1
	after := make([]bool, len(w.insns))
	for at := range positions(len(txt), true) {
		// decided is 1 for instructions from which no way leads to the end, and 2 for the others.
		decided := make([]int, len(w.insns))
		decided[end] = 2
		var leads func(n int) bool
		leads = func(n int) bool {
			if decided[n] == 0 {
				decided[n] = 1
				good := false
				if x := &w.insns[n]; x.reads {
					good = at < len(txt) && after[n+1] && sets.Has(x.set, txt[at])
				} else {
					good = slices.ContainsFunc(w.next(n, at), leads)
				}
				if good {
					decided[n] = 2
				}
			}
			return decided[n] == 2
		}
		here := make([]bool, len(w.insns))
		for n := range w.insns {
			here[n] = leads(n)
		}
		out[at] = here[0]
		after = here
	}
	return out
}

// thread is an instruction that reads a symbol, or the end, with registers.
type thread struct {
	insn      int
	registers []int
}

// closure returns the threads to which some others lead at a position without a symbol, in the order of preference; with done, those after the end are left out.
func (w *writer) closure(from []thread, at int, done bool) []thread {
	seen := make([]bool, len(w.insns))
	var out []thread
	ended := false
	var add func(n int, registers []int)
	add = func(n int, registers []int) {
		if seen[n] || ended {
			return
		}
		seen[n] = true
		x := &w.insns[n]
		if x.reads || n == len(w.insns)-1 {
			out = append(out, thread{n, registers})
			ended = done && !x.reads
			return
		}
		if x.save > 0 {
			registers = slices.Clone(registers)
			registers[x.save-1] = at
		}
		for _, to := range w.next(n, at) {
			add(to, registers)
		}
	}
	for _, th := range from {
		add(th.insn, th.registers)
	}
	return out
}

// read returns where threads lead by a symbol.
func (w *writer) read(from []thread, symbol int) []thread {
	var out []thread
	for _, th := range from {
		if x := &w.insns[th.insn]; x.reads && sets.Has(x.set, symbol) {
			out = append(out, thread{th.insn + 1, th.registers})
		}
	}
	return out
}

// ends returns the thread at the end, if there is one.
func (w *writer) ends(l []thread) (thread, bool) {
	i := slices.IndexFunc(l, func(th thread) bool { return th.insn == len(w.insns)-1 })
	if i < 0 {
		return thread{}, false
	}
	return l[i], true
}

// forward tells for each position whether a way leads from any position up to it to the end of the program.
func (w *writer) forward(txt []int) []bool {
	out := make([]bool, len(txt)+1)
	var l []thread
	for at := range positions(len(txt), false) {
		l = w.closure(append(l, thread{}), at, false)
		_, out[at] = w.ends(l)
		if at < len(txt) {
			l = w.read(l, txt[at])
		}
	}
	return out
}

// first returns the result of the most preferred way from a position to the end of the program.
func (w *writer) first(txt []int, start, caps int) (api.Match, bool) {
	l := []thread{{0, slices.Repeat([]int{-1}, 2*caps)}}
	m, found := api.Match{}, false
	for at := start; len(l) > 0; at++ {
		l = w.closure(l, at, true)
		if th, is := w.ends(l); is {
			found = true
			m = api.Match{Start: start, End: at}
			for i := 0; i < len(th.registers); i += 2 {
				m.Caps = append(m.Caps, [2]int{th.registers[i], th.registers[i+1]})
			}
		}
		if at == len(txt) {
			break
		}
		l = w.read(l, txt[at])
	}
	return m, found
}
