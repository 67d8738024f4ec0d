package disk

import "lodestar/api"

// Steps answers how many steps were made, those that a fault refused too.
func (d *Disk) Steps() int {
	if d == nil {
		return 0
	}
	return d.steps
}

// Plan lets the faults of l come from now on, and no others.
func (d *Disk) Plan(l []api.DiskFault) api.Errno {
	if d == nil || len(l) > api.MaxEvents {
		return api.ErrArg
	}
	last := d.steps
	for _, fault := range l {
		if fault.Step <= last || !mayBe(fault) {
			return api.ErrArg
		}
		last = fault.Step
	}
	d.planned = map[int]api.DiskFault{}
	for _, fault := range l {
		d.planned[fault.Step] = fault
	}
	return api.OK
}

// mayBe tells whether the fault is of a kind, and its N one that the kind knows.
func mayBe(fault api.DiskFault) bool {
	switch fault.Kind {
	case api.FaultFail, api.FaultFull:
		return fault.N == 0
	case api.FaultShort:
		return fault.N >= 0
	}
	return false
}

// step counts a step, and answers the fault that was planned for it, with its error; OK, if there was none.
func (d *Disk) step() (api.DiskFault, api.Errno) {
	d.steps++
	fault, ok := d.planned[d.steps]
	if !ok {
		return api.DiskFault{}, api.OK
	}
	// No step has this number again.
	delete(d.planned, d.steps)
	if fault.Kind == api.FaultFull {
		return fault, api.ErrFull
	}
	return fault, api.ErrFault
}
