package plate

import (
	"errors"

	"broadsheet/api"
)

var errNoPower = errors.New("the plate has no power")

// spend takes power for one thing, or panics where there is none: so no call goes on to its change.
func (p *Plate) spend() {
	if p.power == 0 {
		panic(errNoPower)
	}
	if p.power > 0 {
		p.power--
	}
}

// outcome is a call's answer: its own, or the one to what was thrown inside.
// Anything but a loss of power would be a fault of this package: it is not hidden.
func outcome(thrown any, own api.Errno) api.Errno {
	if thrown == nil {
		return own
	}
	if err, ok := thrown.(error); ok && errors.Is(err, errNoPower) {
		return api.ErrDead
	}
	panic(thrown)
}
