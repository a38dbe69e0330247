package machine

import (
	"onceweb/api"
	"onceweb/eval"
)

// Run is what a code comes to, by what is known and open.
func Run(c api.Code, known []api.Known, open []string) (api.Meaning, api.Errno) {
	m, e := New(c)
	if e != api.OK {
		return api.Meaning{}, e
	}
	if _, e := eval.Eval(nothing(), known, open); e != api.OK {
		return api.Meaning{}, e
	}
	return worldOf(known, open).run(m), api.OK
}

// world is what a machine may want: outcomes by names, and the gates that are open.
type world struct {
	outcomes map[string]api.Outcome
	gates    map[string]struct{}
}

func worldOf(known []api.Known, open []string) world {
	w := world{outcomes: make(map[string]api.Outcome, len(known)), gates: make(map[string]struct{}, len(open))}
	for _, k := range known {
		w.outcomes[k.Name] = k.Outcome
	}
	for _, gate := range open {
		w.gates[gate] = struct{}{}
	}
	return w
}

// run gives m what it wants, until it has ended, or stands at a shut gate.
func (w world) run(m *Machine) api.Meaning {
	var asked []string
	for {
		switch event := m.Step(); event.Kind {
		case api.EForce:
			asked = append(asked, event.Name)
			m.Give(w.outcomeOf(event.Name))
		case api.EGate:
			if _, ok := w.gates[event.Name]; !ok {
				return api.Meaning{Gate: event.Name, Asked: asked}
			}
			m.Pass()
		default:
			return api.Meaning{Outcome: event.Outcome, Asked: asked}
		}
	}
}

// outcomeOf is what is known of the name, or that nothing is.
func (w world) outcomeOf(name string) api.Outcome {
	if o, ok := w.outcomes[name]; ok {
		return o
	}
	return api.Outcome{Kind: api.OFail, Fail: leaf(api.FNone, name)}
}
