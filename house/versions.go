package house

import (
	"maps"
	"slices"

	"rexmill/api"
	"rexmill/canary"
	"rexmill/repair"
	"rexmill/ruleset"
	"rexmill/syntax"
)

const (
	mostUnlike  = 1  // texts that may come out differently for a new version
	enoughTexts = 4  // compared texts after which a new version is good
	mostRepairs = 40 // patterns among which a repair is looked for
)

func (h *House) save(x Op) (int, []byte, api.Errno) {
	if slices.ContainsFunc(x.Rules, func(r ruleset.Rule) bool { return r.Runes }) {
		return 0, nil, api.ErrKind
	}
	n, err := h.store.Save(x.Rules)
	return n, nil, err
}

// compiled returns the set of a version.
func (h *House) compiled(version int) (*ruleset.Set, api.Errno) {
	rules, err := h.store.Load(version)
	if err != api.OK {
		return nil, err
	}
	set, _, err := ruleset.Compile(rules)
	return set, err
}

// install installs a version in the filter, if it is not.
func (h *House) install(version int) api.Errno {
	if h.installed[version] {
		return api.OK
	}
	set, err := h.compiled(version)
	if err != api.OK {
		return err
	}
	if err := h.filter.Install(version, set); err != api.OK {
		return err
	}
	h.installed[version] = true
	return api.OK
}

// use makes a version the one for documents and new connections.
func (h *House) use(version int) api.Errno {
	for _, v := range slices.Sorted(maps.Keys(h.installed)) {
		if v != version && h.filter.Remove(v) == api.OK {
			delete(h.installed, v)
		}
	}
	if err := h.install(version); err != api.OK {
		return err
	}
	rules, err := h.store.Load(version)
	if err != api.OK {
		return err
	}
	live, index := liveRules(rules)
	if err := h.editor.Rules(live); err != api.OK {
		return err
	}
	if err := h.store.Use(version); err != api.OK {
		// The documents keep the rules of the version that stays the active one.
		h.lost = true
		h.editor.Rules(h.live)
		return err
	}
	h.live, h.index = live, index
	return h.filter.Use(version)
}

func (h *House) has(version int) bool {
	return 0 <= version && version < h.Len()
}

func (h *House) useVersion(x Op) (int, []byte, api.Errno) {
	if !h.has(x.A) {
		return 0, nil, api.ErrNone
	}
	if h.trial != nil {
		return 0, nil, api.ErrBusy
	}
	return 0, nil, h.use(x.A)
}

func (h *House) compare(x Op) (int, []byte, api.Errno) {
	if !h.has(x.A) || h.Active() < 0 {
		return 0, nil, api.ErrNone
	}
	if h.trial != nil {
		return 0, nil, api.ErrBusy
	}
	old, err := h.compiled(h.Active())
	if err != api.OK {
		return 0, nil, err
	}
	fresh, err := h.compiled(x.A)
	if err != api.OK {
		return 0, nil, err
	}
	c, err := canary.New(old, fresh, x.B, mostUnlike, enoughTexts)
	if err != api.OK {
		return 0, nil, err
	}
	var names []string
	for _, r := range x.Rules {
		names = append(names, r.Name)
	}
	if err := c.Allow(names); err != api.OK {
		return 0, nil, err
	}
	h.trial = &trial{c, x.A}
	return 0, nil, api.OK
}

// see shows a text to the canary, and does what its verdict says.
func (h *House) see(text []int) {
	t := h.trial
	// A text with an error is passed over.
	t.canary.See(text, matchFuel)
	verdict := t.canary.Verdict()
	if verdict != canary.Open {
		h.trial = nil
	}
	if verdict == canary.Good {
		// With an error the old version stays.
		h.use(t.version)
	}
}

func (h *House) repair(x Op) (int, []byte, api.Errno) {
	rules, err := h.store.Load(h.Active())
	if err != api.OK || x.A < 0 || x.A >= len(rules) {
		return 0, nil, api.ErrNone
	}
	p, _, err := syntax.Parse(rules[x.A].Text, syntax.Flags{Runes: rules[x.A].Runes})
	if err != api.OK {
		return 0, nil, err
	}
	fix, err := repair.Find(p, x.B, mostRepairs)
	if err != api.OK {
		return 0, nil, err
	}
	text, err := syntax.Print(fix.Pattern)
	if err != api.OK {
		return 0, nil, err
	}
	rules[x.A].Text = text
	n, err := h.store.Save(rules)
	return n, nil, err
}
