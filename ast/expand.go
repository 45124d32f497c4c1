package ast

import (
	"slices"

	"rexmill/api"
	"rexmill/wire"
)

const (
	maxExpanded = 4096    // nodes of what Expand returns
	tooGreat    = 1 << 20 // stands for all sizes that are greater, which are not computed
)

// simple reports whether Expand leaves a repetition as it is.
func simple(node api.Re) bool {
	return node.Min == 0 && (node.Max == -1 || node.Max == 1)
}

// Expand returns a tree without bounded repetitions and with the same meaning, for trees without Possessive.
func Expand(re api.Re) (api.Re, api.Errno) {
	accepted := true
	visit(re, func(node api.Re, _ []int) bool {
		if node.Op == api.OpRep {
			accepted = node.Mode != api.Possessive && (simple(node) || !Nullable(node.Kids[0]))
		}
		return accepted
	})
	if !accepted {
		return api.Re{}, api.ErrKind
	}
	if expandedSize(re) > maxExpanded {
		return api.Re{}, api.ErrLimit
	}
	return expanded(re), api.OK
}

// expandedSize returns the size of what expanded returns, or a number that is too great.
func expandedSize(re api.Re) int {
	size := 1
	for _, kid := range re.Kids {
		size = min(size+expandedSize(kid), tooGreat)
	}
	if re.Op != api.OpRep || simple(re) {
		return size
	}
	kid := size - 1
	parts := re.Min
	size = re.Min * kid
	if re.Max == -1 {
		size += 1 + kid
		parts++
	} else if re.Max > re.Min {
		// Each r(n) but r(1) has an OpRep and an OpCat of its own.
		n := re.Max - re.Min
		size += n*(kid+2) - 1
		parts++
	}
	if parts > 1 {
		size++
	}
	return min(size, tooGreat)
}

// expanded replaces repetitions from the leaves up.
func expanded(re api.Re) api.Re {
	out := re
	out.Set = slices.Clone(re.Set)
	out.Kids = nil
	for _, kid := range re.Kids {
		out.Kids = append(out.Kids, expanded(kid))
	}
	if re.Op != api.OpRep || simple(re) {
		return out
	}
	kid := out.Kids[0]
	repeat := func(x api.Re, most int) api.Re {
		return api.Re{Op: api.OpRep, Max: most, Mode: re.Mode, Kids: []api.Re{x}}
	}
	var parts []api.Re
	for range re.Min {
		parts = append(parts, copied(kid))
	}
	if re.Max == -1 {
		parts = append(parts, repeat(copied(kid), -1))
	} else if re.Max > re.Min {
		last := repeat(copied(kid), 1)
		for range re.Max - re.Min - 1 {
			last = repeat(api.Re{Op: api.OpCat, Kids: []api.Re{copied(kid), last}}, 1)
		}
		parts = append(parts, last)
	}
	if len(parts) == 1 {
		return parts[0]
	}
	return api.Re{Op: api.OpCat, Kids: parts}
}

// Encode returns the bytes of any pattern.
func Encode(p api.Pattern) []byte {
	w := &wire.Writer{}
	w.Int(p.Caps)
	w.Bool(p.Runes)
	visit(p.Re, func(node api.Re, _ []int) bool {
		head := []int{node.Op}
		for _, s := range node.Set {
			head = append(head, s.Lo, s.Hi)
		}
		w.Ints(head)
		w.Ints([]int{node.Min, node.Max, node.Mode, node.N, truth(node.Neg)})
		w.Int(len(node.Kids))
		return true
	})
	return w.Done()
}

// Decode returns the valid pattern that bytes are the encoding of.
func Decode(b []byte) (api.Pattern, api.Errno) {
	r := wire.Read(b)
	p := api.Pattern{Caps: r.Int(), Runes: r.Bool()}
	left := api.MaxNodes
	good := true
	var read func(depth int) api.Re
	read = func(depth int) api.Re {
		node, kids := readNode(r)
		left--
		good = good && kids >= 0 && kids <= left && depth <= api.MaxNesting
		for i := 0; good && i < kids; i++ {
			node.Kids = append(node.Kids, read(depth+1))
		}
		return node
	}
	p.Re = read(1)
	if !good || r.End() != api.OK || Valid(p) != api.OK {
		return api.Pattern{}, api.ErrForm
	}
	return p, api.OK
}

// readNode reads a node and the number of its kids, which is negative if the node is malformed.
func readNode(r *wire.Reader) (api.Re, int) {
	head, numbers, kids := r.Ints(), r.Ints(), r.Int()
	if len(head)%2 == 0 || len(numbers) != 5 || numbers[4]>>1 != 0 {
		return api.Re{}, -1
	}
	node := api.Re{Op: head[0], Min: numbers[0], Max: numbers[1], Mode: numbers[2], N: numbers[3], Neg: numbers[4] == 1}
	for i := 1; i < len(head); i += 2 {
		node.Set = append(node.Set, api.Span{Lo: head[i], Hi: head[i+1]})
	}
	return node, kids
}
