package bounds

import (
	"slices"

	"vernier/api"
)

// mostShrinks is how often the claims of states shrink at most.
const mostShrinks = 3

// state returns the claim of a state.
func (l *leaf) state(s int) claim { return read(l.item.States[s]) }

// first returns the claim of a state before the first step.
func (l *leaf) first(s int) claim { return read(l.item.Claims[l.States[s].Init]) }

// next returns the claim of a state after a step.
func (l *leaf) next(s int) claim { return read(l.item.Claims[l.States[s].Next]) }

// closeStates finds claims of the states that hold after each step if they hold before it.
func (l *leaf) closeStates() {
	for _, s := range l.states {
		l.item.States[s] = l.first(s).text()
	}
	l.round()
	for rounds := 0; !l.areClosed(); rounds++ {
		if rounds == l.plan.Widen {
			panic(gap{ErrWiden})
		}
		l.widenStates(rounds)
		l.round()
	}
}

// round claims what is best of the body by the claims of the states.
func (l *leaf) round() { l.claimNodes(l.Head, l.Tail) }

func (l *leaf) areClosed() bool {
	for _, s := range l.states {
		if !l.next(s).isWithin(l.state(s)) {
			return false
		}
	}
	return true
}

// widenStates goes beyond what a step makes of the states: the farther, the more rounds there
// were before, so that what grows with each step comes to an end in few rounds.
func (l *leaf) widenStates(rounds int) {
	for _, s := range l.states {
		c := l.state(s).widen(l.next(s), rounds).outward(l.plan.Bits)
		if c.isLong() {
			panic(gap{api.ErrLong})
		}
		l.item.States[s] = c.text()
	}
}

// shrinkStates gives up what was claimed of the states beyond need.
func (l *leaf) shrinkStates() {
	for range mostShrinks {
		less := l.copied()
		if !less.takeLeast() || attempt(less.round) != api.OK || !less.areClosed() {
			return
		}
		l.item = less.item
	}
}

// copied returns a leaf whose claims can become others without those of l doing so.
func (l *leaf) copied() *leaf {
	c := *l
	c.item.Claims, c.item.States = slices.Clone(l.item.Claims), slices.Clone(l.item.States)
	return &c
}

// takeLeast claims of the states what holds before the first step and after each one, and
// reports whether this is other than what was claimed.
func (l *leaf) takeLeast() (other bool) {
	for _, s := range l.states {
		least := l.first(s).join(l.next(s)).text()
		if was := l.item.States[s]; least.Lo != was.Lo || least.Hi != was.Hi || least.Err != was.Err {
			other = true
		}
		l.item.States[s] = least
	}
	return other
}
