package disk

import "parterre/api"

// noFuse is below 0, so that no step burns it down.
const noFuse = -1

// meter counts the steps, and cuts the power at the first that the fuse doesn't allow.
type meter struct {
	fuse  int
	steps int
	down  bool
}

func newMeter() meter {
	return meter{fuse: noFuse}
}

// step is asked ahead of each step, once its own errors are out of the way, so that no step with an error burns the fuse.
func (m *meter) step() api.Errno {
	if m.down || m.fuse == 0 {
		m.down = true
		return api.ErrPower
	}
	if m.fuse > 0 {
		m.fuse--
	}
	m.steps++
	return api.OK
}

// restore leaves the count of steps as it is: a crash undoes none.
func (m *meter) restore() {
	m.fuse = noFuse
	m.down = false
}
