package disk

import "cahier/api"

// fault is what is armed; the zero one is nothing.
type fault struct {
	kind int
	at   int // the number of its operation from now on
	more int // how many operations behind that have it too
}

func newFault(at, kind, more int) fault {
	switch {
	case at < 1:
		return fault{}
	case kind == api.FaultIO:
		return fault{kind: kind, at: at, more: max(more, 0)}
	case kind == api.FaultPower:
		return fault{kind: kind, at: at}
	}
	return fault{}
}

// next counts an operation, and answers the kind of the fault that it has, 0 for none.
func (f *fault) next() int {
	if f.at == 0 {
		return 0
	}
	f.at--
	if f.at > 0 {
		return 0
	}
	kind := f.kind
	if f.more > 0 {
		f.more--
		f.at = 1
	} else {
		*f = fault{}
	}
	return kind
}
