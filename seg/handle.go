package seg

import (
	"slices"

	"sextet/api"
	"sextet/msg"
	"sextet/page"
	"sextet/slog"
	"sextet/vers"
)

// fillMost is how many records a Fill has at most.
const fillMost = 8

// Handle is what m is answered: one message, or none.
func (s *Seg) Handle(m api.Msg) ([]api.Msg, error) {
	if msg.Valid(m) != nil || m.To != s.id || m.Group != s.group {
		return nil, nil
	}
	m.Recs = counted(m)
	out, err := s.answer(m)
	if err != nil || out.Kind == 0 {
		return nil, err
	}
	out.From, out.To, out.Group, out.Seq = s.id, m.From, s.group, m.Seq
	return []api.Msg{out}, nil
}

// counted are the records of m that count in a message of its kind, group and epoch.
func counted(m api.Msg) []api.Redo {
	least := 0
	if m.Kind == api.Write {
		least = m.Epoch
	}
	var out []api.Redo
	for _, r := range m.Recs {
		if r.Group == m.Group && least <= r.Epoch && r.Epoch <= m.Epoch {
			out = append(out, r)
		}
	}
	return out
}

// answer is what m is answered, but for what all answers have; it is of no kind, if there is none.
func (s *Seg) answer(m api.Msg) (api.Msg, error) {
	st := s.log.State()
	if !st.Whole {
		if m.Kind == api.Whole && m.Seq == st.Inc && m.At <= int64(m.Epoch) {
			s.keep(m)
		}
		return api.Msg{}, nil
	}
	switch m.Kind {
	case api.Write, api.Prepare, api.Read:
		return s.fenced(m, st)
	case api.Install:
		if m.Inc == st.Inc {
			return s.fenced(m, st)
		}
	case api.Ask, api.Fill, api.Floor:
		if m.Epoch == st.Installed {
			return s.current(m)
		}
	case api.Hydrate:
		return s.everything(api.Whole), nil
	}
	return api.Msg{}, nil
}

// fenced answers what is refused if its epoch is below what is promised.
func (s *Seg) fenced(m api.Msg, st slog.State) (api.Msg, error) {
	if m.Epoch < st.Promise {
		return api.Msg{Kind: api.Refuse, Epoch: st.Promise, Inc: st.Inc}, nil
	}
	switch m.Kind {
	case api.Write:
		return s.write(m, st)
	case api.Prepare:
		return s.prepare(m, st)
	case api.Install:
		return s.install(m, st)
	}
	return s.read(m, st), nil
}

// write answers a Write that isn't refused.
func (s *Seg) write(m api.Msg, st slog.State) (api.Msg, error) {
	if m.Epoch != st.Installed || m.Epoch != st.Promise {
		return api.Msg{}, nil
	}
	if _, err := s.log.Records(s.without(m.Recs, api.ErrThere)...); err != nil {
		return api.Msg{}, err
	}
	return s.upTo(api.Ack, m), nil
}

// prepare answers a Prepare that isn't refused.
func (s *Seg) prepare(m api.Msg, st slog.State) (api.Msg, error) {
	if err := s.log.Promise(m.Epoch); err != nil {
		return api.Msg{}, err
	}
	out := s.everything(api.Promise)
	out.Inc = st.Inc
	return out, nil
}

// install answers an Install of its life that isn't refused.
func (s *Seg) install(m api.Msg, st slog.State) (api.Msg, error) {
	var err error
	switch {
	case m.Epoch > st.Promise:
		return api.Msg{}, nil
	case m.Epoch > st.Installed:
		err = s.log.Install(m.Epoch, m.Spans, m.Recs)
	default:
		_, err = s.log.Records(s.without(m.Recs, api.ErrThere)...)
	}
	if err != nil {
		return api.Msg{}, err
	}
	return s.upTo(api.Done, m), nil
}

// read answers a Read that isn't refused.
func (s *Seg) read(m api.Msg, st slog.State) api.Msg {
	out := api.Msg{Kind: api.Behind, Epoch: m.Epoch, Page: m.Page, At: m.At}
	h := s.log.Hot()
	if m.Epoch != st.Installed || h.SCL() < m.LSN || m.At < st.Floor {
		return out
	}
	out.Kind = api.Give
	body, err := vers.At(h, m.Page, m.At)
	if err != nil {
		// It is ErrNone: the numbers of a valid message are right.
		body = page.New(m.Page)
	}
	out.Body = body
	return out
}

// current answers an Ask, a Fill or a Floor of the epoch that is installed.
func (s *Seg) current(m api.Msg) (api.Msg, error) {
	h := s.log.Hot()
	switch m.Kind {
	case api.Fill:
		_, err := s.log.Records(s.without(m.Recs, api.ErrThere, api.ErrFull)...)
		return api.Msg{}, err
	case api.Floor:
		return api.Msg{}, s.log.Floor(min(m.LSN, h.SCL()))
	}
	recs := h.Above(m.LSN, fillMost)
	if len(recs) == 0 {
		return api.Msg{}, nil
	}
	return api.Msg{Kind: api.Fill, Epoch: m.Epoch, Recs: recs}, nil
}

// without are recs, one behind the other, but those for which a log tells one of errs.
func (s *Seg) without(recs []api.Redo, errs ...error) []api.Redo {
	h := s.log.Hot()
	var out []api.Redo
records:
	for _, r := range recs {
		_, err := h.Add(r)
		for _, e := range errs {
			if err == e {
				continue records
			}
		}
		out = append(out, r)
	}
	return out
}

// upTo tells how far it has all, as an answer of that kind.
func (s *Seg) upTo(kind int, m api.Msg) api.Msg {
	return api.Msg{Kind: kind, Epoch: m.Epoch, Inc: s.log.State().Inc, LSN: s.log.Hot().SCL()}
}

// everything is all that it has, as an answer of that kind.
func (s *Seg) everything(kind int) api.Msg {
	st := s.log.State()
	return api.Msg{
		Kind: kind, Epoch: st.Promise, At: int64(st.Installed), LSN: st.Floor,
		Spans: st.Spans, Recs: slices.Collect(s.log.Hot().All()),
	}
}
