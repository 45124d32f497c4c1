package filter

import (
	"rexmill/api"
	"rexmill/back"
	"rexmill/meter"
	"rexmill/prog"
	"rexmill/ruleset"
	"rexmill/stream"
	"rexmill/syntax"
	"rexmill/text"
)

// purse is the fuel of a rule at a tick.
type purse struct {
	meter *meter.Meter
	rule  int
	tick  int
}

// left returns how much fuel is left.
func (p purse) left() int {
	n, _ := p.meter.Left(p.rule, p.tick)
	return n
}

// take takes fuel of which there is enough.
func (p purse) take(n int) {
	p.meter.Take(p.rule, n, p.tick)
}

// watcher is what a rule does for a connection. Both functions return start and end of what they find; false: the rule goes out.
type watcher interface {
	data(piece []byte, p purse) ([][2]int, bool)
	end(all []byte, p purse) ([][2]int, bool)
}

// rule is a rule of a version: its pattern, and its program if it flows.
type rule struct {
	pattern api.Pattern
	prog    prog.Prog
	flows   bool
}

// prepared returns a rule that was compiled once already.
func prepared(r ruleset.Rule) rule {
	p, _, _ := syntax.Parse(r.Text, syntax.Flags{Runes: r.Runes})
	g, err := prog.Compile(p)
	if err == api.OK {
		_, err = stream.NewBytes(g)
	}
	return rule{p, g, err == api.OK}
}

// watch returns what a rule does for a new connection.
func (r rule) watch() watcher {
	if !r.flows {
		return &waiting{r.pattern}
	}
	s, _ := stream.NewBytes(r.prog)
	return &flowing{s}
}

// flowing is a rule that is told about pieces.
type flowing struct {
	stream *stream.Bytes
}

func (w *flowing) data(piece []byte, p purse) ([][2]int, bool) {
	if p.left() < len(piece) {
		return nil, false
	}
	p.take(len(piece))
	found, err := w.stream.Feed(piece)
	return found, err == api.OK
}

func (w *flowing) end([]byte, purse) ([][2]int, bool) {
	found, err := w.stream.Close()
	return found, err == api.OK
}

// waiting is a rule that needs the whole text.
type waiting struct {
	pattern api.Pattern
}

func (w *waiting) data([]byte, purse) ([][2]int, bool) {
	return nil, true
}

func (w *waiting) end(all []byte, p purse) ([][2]int, bool) {
	symbols, err := text.Decode(all, w.pattern.Runes)
	if err != api.OK {
		return nil, false
	}
	m, _ := back.New(w.pattern)
	left := p.left()
	used := 0
	var found [][2]int
	for at := range len(symbols) + 1 {
		match, is, steps, err := m.Run(symbols, at, left-used)
		if err != api.OK {
			p.take(left)
			return nil, false
		}
		used += steps
		if is {
			found = append(found, [2]int{match.Start, match.End})
		}
	}
	p.take(used)
	return found, true
}
