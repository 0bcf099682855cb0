package engine

import "counterfoil/api"

// running is what goes on within a step. Each map is from forms, which are deleted from it when it is over; between steps all are empty.
type running struct {
	within, fired int // how many events are being fired, and how many were since the step began
	asking        map[int]now
	submitting    map[int]now
	resetting     map[int]now
	building      map[int][]api.Entry
}

// now is all that there is to tell of a form at which something is being fired.
type now struct{}

func idle() running {
	return running{asking: map[int]now{}, submitting: map[int]now{}, resetting: map[int]now{}, building: map[int][]api.Entry{}}
}

func (r *running) restart() { r.fired = 0 }

// isFull tells whether no event may be fired any more, or not by one that is being fired.
func (r *running) isFull() bool { return r.within >= api.MaxDeep || r.fired >= mostEvents }

// isUnderway tells whether a form is on its way to be submitted, but not yet building.
func (r *running) isUnderway(form int) bool {
	_, asked := r.asking[form]
	_, submitted := r.submitting[form]
	return asked || submitted
}

func (r *running) isResetting(form int) bool {
	_, ok := r.resetting[form]
	return ok
}

func (r *running) isBuilding(form int) bool {
	_, ok := r.building[form]
	return ok
}

// collect puts an entry behind what the form is building.
func (r *running) collect(form int, e api.Entry) {
	r.building[form] = append(r.building[form], e)
}
