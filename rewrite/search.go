package rewrite

import (
	"slices"

	"vernier/api"
	"vernier/bounds"
	"vernier/exact"
	"vernier/lang"
)

func checkSearch(rounds, most int) api.Errno {
	if rounds < 0 || rounds > api.MaxRwRounds || most < 1 || most > api.MaxRwProgs {
		return api.ErrRange
	}
	return api.OK
}

// reached is a program that is reached: by a step from the program that is at a place of the
// list before it. No step leads to the first one.
type reached struct {
	*subject
	from int
	step api.RwStep
}

// search is a list of programs that are reached, and how many there are at most.
type search struct {
	list []reached
	most int
}

// reach returns the programs that are reached.
func (s *subject) reach(rounds, most int) []reached {
	x := &search{[]reached{{subject: s}}, most}
	first := 0
	for range rounds {
		end := len(x.list)
		for from := first; from < end && !x.isComplete(); from++ {
			x.extend(from)
		}
		first = end
	}
	return x.list
}

func (x *search) isComplete() bool { return len(x.list) == x.most }

// extend adds what is reached by one step from a program of the list.
func (x *search) extend(from int) {
	for step, q := range x.list[from].steps() {
		if x.has(q) {
			continue
		}
		x.list = append(x.list, reached{newSubject(q), from, step})
		if x.isComplete() {
			return
		}
	}
}

func (x *search) has(q api.Prog) bool {
	return slices.ContainsFunc(x.list, func(r reached) bool { return lang.Same(r.Prog, q) })
}

// stepsTo returns the steps by which a program of the list was added.
func stepsTo(list []reached, at int) []api.RwStep {
	var out []api.RwStep
	for ; at > 0; at = list[at].from {
		out = append(out, list[at].step)
	}
	slices.Reverse(out)
	return out
}

// leastError returns the first program of those with the least error, and this; or, if none
// has one, why the first program has none.
func leastError(list []reached, plan api.BdPlan) (at int, err exact.Num, e api.Errno) {
	at = -1
	for i, r := range list {
		x, fault := bounds.Error(r.Prog, plan)
		switch {
		case fault == api.OK && (at < 0 || x.Cmp(err) < 0):
			at, err, e = i, x, api.OK
		case i == 0:
			e = fault
		}
	}
	return at, err, e
}
