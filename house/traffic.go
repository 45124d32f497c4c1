package house

import (
	"slices"

	"rexmill/api"
	"rexmill/pool"
	"rexmill/proto"
	"rexmill/ruleset"
	"rexmill/text"
	"rexmill/wire"
	"rexmill/worker"
)

const (
	maxLink  = 63
	maxFound = 1024 // findings of a message
	allRules = 500
)

func (h *House) send(x Op) (int, []byte, api.Errno) {
	if x.A < 0 || x.A > maxLink {
		return 0, nil, api.ErrArg
	}
	if h.links[x.A] == nil {
		h.links[x.A] = proto.NewReader()
	}
	messages, err := h.links[x.A].Feed(x.Raw)
	var out []byte
	for _, m := range messages {
		out = append(out, h.reply(m)...)
	}
	if err != api.OK {
		delete(h.links, x.A)
		out = append(out, refusal(0, err)...)
	}
	return len(messages), out, api.OK
}

// encoded returns the frame of a reply.
func encoded(m proto.Message) []byte {
	b, _ := proto.Encode(m)
	return b
}

// refusal returns the reply to what cannot be done.
func refusal(conn int, err api.Errno) []byte {
	return encoded(proto.Message{Kind: proto.Error, Conn: conn, Version: -1, Code: err})
}

// versionOf returns the version of an open connection, or -1.
func (h *House) versionOf(conn int) int {
	for _, c := range h.filter.Conns() {
		if c[0] == conn {
			return c[1]
		}
	}
	return -1
}

// reply does what a message says, and returns the replies to it.
func (h *House) reply(m proto.Message) []byte {
	var told []api.Found
	err := api.ErrKind
	kind := m.Kind
	version := h.versionOf(m.Conn)
	switch m.Kind {
	case proto.Hello:
		if err = h.filter.Open(m.Conn, h.tick); err == api.OK {
			h.texts[m.Conn] = nil
			version = h.versionOf(m.Conn)
		}
	case proto.Data:
		kind = proto.Verdict
		if told, err = h.filter.Data(m.Conn, m.Body, h.tick); err == api.OK {
			h.texts[m.Conn] = append(h.texts[m.Conn], m.Body...)
		}
	case proto.End:
		if told, err = h.filter.End(m.Conn, h.tick); err == api.OK {
			h.ended(version, h.texts[m.Conn])
			delete(h.texts, m.Conn)
		}
	}
	if err != api.OK {
		return refusal(m.Conn, err)
	}
	var out []byte
	for len(told) > maxFound {
		out = append(out, encoded(proto.Message{Kind: proto.Verdict, Conn: m.Conn, Version: version, Found: told[:maxFound]})...)
		told = told[maxFound:]
	}
	return append(out, encoded(proto.Message{Kind: kind, Conn: m.Conn, Version: version, Found: told})...)
}

// ended shows the text of a connection that has ended to the canary, and makes it a task.
func (h *House) ended(version int, b []byte) {
	if h.trial != nil && version == h.Active() {
		symbols, _ := text.Decode(b, false)
		h.see(symbols)
	}
	w := &wire.Writer{}
	w.Int(version)
	w.Raw(b)
	if h.pool.Add(pool.Task{ID: h.tasks, Body: w.Done()}) == api.OK {
		h.tasks++
	}
}

func (h *House) ask(x Op) (int, []byte, api.Errno) {
	task, try, is, err := h.pool.Ask(x.A, h.tick)
	if err != api.OK || !is {
		return 0, nil, err
	}
	r := wire.Read(task.Body)
	version, b := r.Int(), r.Raw()
	rules, _ := h.store.Load(version)
	symbols, _ := text.Decode(b, false)
	found, err := match(h.workers[x.A], version, rules, symbols, x.B)
	w := &wire.Writer{}
	w.Int(int(err))
	putFound(w, found)
	h.mail = append(h.mail, pool.Reply{Task: task.ID, Worker: x.A, Try: try, Body: w.Done()})
	return len(h.mail), nil, api.OK
}

// match lets a worker match a text under a version, which it loads some rules at a time, if it has not.
func match(w *worker.Worker, version int, rules []ruleset.Rule, text []int, atATime int) ([]api.Found, api.Errno) {
	if atATime < 1 || atATime > allRules {
		atATime = allRules
	}
	switch err := w.Load(version, rules); err {
	case api.OK:
		for loaded := false; !loaded; {
			all, err := w.Step(atATime)
			if err != api.OK {
				return nil, err
			}
			loaded = all
		}
	case api.ErrTwice:
	default:
		return nil, err
	}
	if err := w.Switch(version); err != api.OK {
		return nil, err
	}
	return w.Match(version, text, matchFuel)
}

func (h *House) answer(x Op) (int, []byte, api.Errno) {
	if x.A < 0 || x.A >= len(h.mail) {
		return 0, nil, api.ErrNone
	}
	r := h.mail[x.A]
	if x.B == 0 {
		h.mail = slices.Delete(h.mail, x.A, x.A+1)
	}
	if first, _ := h.pool.Answer(r, h.tick); !first {
		return 0, nil, api.OK
	}
	return 1, slices.Clone(r.Body), api.OK
}

func (h *House) stop(x Op) (int, []byte, api.Errno) {
	if x.B != 0 {
		err := h.pool.Revive(x.A)
		if err == api.OK {
			h.workers[x.A].Start()
		}
		return 0, nil, err
	}
	err := h.pool.Die(x.A, h.tick)
	if err == api.OK {
		h.workers[x.A].Stop()
	}
	return 0, nil, err
}
