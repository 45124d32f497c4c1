package ways

import "testing"

// asked is, for each layer that has been built, what the document's section 'Ways' asks for.
var asked = []struct {
	layer string
	words []string
}{
	{"hash", []string{"variadic", "range-function"}},
	{"wire", []string{"generic-function", "method-value"}},
	{"sets", []string{"closure", "variadic", "struct-compared"}},
	{"text", []string{"array", "range-function", "closure"}},
	{"ast", []string{"closure", "iota", "variadic"}},
	{"syntax", []string{"closure", "map", "embedding"}},
	{"sem", []string{"closure", "map", "method-expression"}},
	{"back", []string{"embedding", "closure", "copy"}},
	{"memo", []string{"map", "closure", "iota"}},
	{"prog", []string{"closure", "struct-compared", "label"}},
	{"pike", []string{"closure", "clear", "three-index"}},
	{"dfa", []string{"map", "closure", "variadic"}},
	{"onepass", []string{"map", "range-function", "array"}},
	{"oracle", []string{"function-field", "closure", "range-function"}},
	{"plan", []string{"array", "variadic"}},
	{"auto", []string{"map", "closure", "generic-function"}},
	{"deriv", []string{"map", "range-function", "fallthrough"}},
	{"amb", []string{"generic-function", "closure", "map", "array"}},
	{"growth", []string{"iota", "closure", "range-integer"}},
	{"bound", []string{"array", "closure", "iota"}},
	{"rules", []string{"function-field", "generic-function", "closure"}},
	{"repair", []string{"closure", "embedding", "variadic"}},
	{"differ", []string{"range-function", "closure"}},
	{"monoid", []string{"map", "closure", "copy"}},
	{"rope", []string{"interface", "type-switch", "range-function"}},
	{"live", []string{"map", "struct-compared", "method-value"}},
	{"edits", []string{"map", "struct-compared", "variadic"}},
	{"stream", []string{"map", "closure"}},
	{"ruleset", []string{"map", "closure", "embedding"}},
	{"disk", []string{"map", "delete"}},
	{"journal", []string{"range-function", "defer"}},
	{"store", []string{"map", "delete"}},
	{"meter", []string{"closure", "copy", "generic-function"}},
	{"pool", []string{"map", "range-function", "copy"}},
	{"worker", []string{"map", "delete", "embedding", "promoted"}},
	{"canary", []string{"iota", "map", "closure"}},
	{"proto", []string{"closure", "iota", "array"}},
	{"filter", []string{"map", "interface", "closure"}},
	{"editor", []string{"map", "embedding", "closure"}},
	{"house", []string{"map", "method-expression", "embedding", "range-function"}},
}

func TestWays(t *testing.T) {
	for _, a := range asked {
		miss, err := WaysMissing("..", "rexmill", []string{a.layer}, a.words)
		if err != nil {
			t.Fatal(err)
		}
		for _, m := range miss {
			t.Errorf("%s: way missing: %s", a.layer, m)
		}
	}
}
