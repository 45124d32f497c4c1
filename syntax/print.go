package syntax

import (
	"slices"
	"strconv"
	"strings"

	"rexmill/api"
	"rexmill/ast"
	"rexmill/text"
)

const maxQuoted = 255 // symbols whose text is a pattern text

// Print returns the text of a pattern, which Parse reads without flags (but Runes).
func Print(p api.Pattern) (string, api.Errno) {
	if err := ast.Valid(p); err != api.OK {
		return "", err
	}
	s := treeText(p.Re)
	if p.Caps > 0 && !slices.Contains(ast.Numbers(p.Re), p.Caps) {
		s = "(?#" + strconv.Itoa(p.Caps) + ")" + s
	}
	if len(s) > api.MaxPattern {
		return "", api.ErrLimit
	}
	return s, api.OK
}

// Quote returns the text of a pattern that matches just a text.
func Quote(symbols []int, runes bool) (string, api.Errno) {
	if err := text.Valid(symbols, runes); err != api.OK {
		return "", err
	}
	if len(symbols) > maxQuoted {
		return "", api.ErrLimit
	}
	var b strings.Builder
	for _, s := range symbols {
		b.WriteString(symbolText(s))
	}
	if b.Len() > api.MaxPattern {
		return "", api.ErrLimit
	}
	return b.String(), api.OK
}

// symbolText returns the text of a symbol.
func symbolText(c int) string {
	switch {
	case c == 10:
		return `\n`
	case c == 13:
		return `\r`
	case c == 9:
		return `\t`
	case isPunctuation(c):
		return `\` + string(rune(c))
	case 32 <= c && c <= 126:
		return string(rune(c))
	case c < 16:
		return `\x0` + strconv.FormatInt(int64(c), 16)
	case c <= 255:
		return `\x` + strconv.FormatInt(int64(c), 16)
	}
	return `\u{` + strconv.FormatInt(int64(c), 16) + "}"
}

// treeText returns the text of a tree.
func treeText(re api.Re) string {
	n := strconv.Itoa(re.N)
	switch re.Op {
	case api.OpSet:
		return setText(re.Set)
	case api.OpCat:
		return all(re.Kids, "", itemText)
	case api.OpAlt:
		return all(re.Kids, "|", catText)
	case api.OpRep:
		return atomText(re.Kids[0]) + quantifier(re)
	case api.OpCap:
		return "(?<" + n + ">" + treeText(re.Kids[0]) + ")"
	case api.OpRef:
		return `\` + n
	case api.OpAhead, api.OpBehind, api.OpAtom:
		return "(?" + lookText(re) + treeText(re.Kids[0]) + ")"
	case api.OpCond:
		return "(?(" + n + ")" + all(re.Kids, "|", catText) + ")"
	case api.OpAssert:
		return []string{`\A`, `\z`, "(?m:^)", "(?m:$)", `\b`, `\B`}[re.N]
	}
	return ""
}

// all returns the texts of kids with a sign between them.
func all(kids []api.Re, between string, text func(api.Re) string) string {
	l := make([]string, len(kids))
	for i, kid := range kids {
		l[i] = text(kid)
	}
	return strings.Join(l, between)
}

// lookText returns what follows (? in a group of look-around or an atomic one.
func lookText(re api.Re) string {
	sign := "="
	if re.Neg {
		sign = "!"
	}
	switch re.Op {
	case api.OpAtom:
		return ">"
	case api.OpBehind:
		return "<" + sign
	}
	return sign
}

func setText(l []api.Span) string {
	if len(l) == 1 && l[0].Lo == l[0].Hi {
		return symbolText(l[0].Lo)
	}
	s := "["
	for _, span := range l {
		s += symbolText(span.Lo)
		if span.Lo != span.Hi {
			s += "-" + symbolText(span.Hi)
		}
	}
	return s + "]"
}

func quantifier(re api.Re) string {
	least, most := strconv.Itoa(re.Min), strconv.Itoa(re.Max)
	s := "{" + least + "," + most + "}"
	switch {
	case re.Min == 0 && re.Max == -1:
		s = "*"
	case re.Min == 1 && re.Max == -1:
		s = "+"
	case re.Min == 0 && re.Max == 1:
		s = "?"
	case re.Min == re.Max:
		s = "{" + least + "}"
	case re.Max == -1:
		s = "{" + least + ",}"
	}
	return s + []string{"", "?", "+"}[re.Mode]
}

func grouped(re api.Re) string {
	return "(?:" + treeText(re) + ")"
}

// catText returns the text of a tree where alternatives would end.
func catText(re api.Re) string {
	if re.Op == api.OpAlt {
		return grouped(re)
	}
	return treeText(re)
}

// itemText returns the text of a tree within a sequence.
func itemText(re api.Re) string {
	if re.Op == api.OpEmpty || re.Op == api.OpCat || re.Op == api.OpAlt {
		return grouped(re)
	}
	return treeText(re)
}

// atomText returns the text of a tree in front of a quantifier.
func atomText(re api.Re) string {
	if re.Op == api.OpRep {
		return grouped(re)
	}
	return itemText(re)
}
