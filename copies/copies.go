// Package copies has copies of parts of proofs that share no memory with what they are copies of.
package copies

import (
	"slices"

	"vernier/api"
)

// Items returns copies of items of proofs.
func Items(l []api.PfItem) []api.PfItem { return each(l, item) }

// each returns a list of copies.
func each[T any](l []T, copyOf func(T) T) []T {
	out := make([]T, len(l))
	for i, x := range l {
		out[i] = copyOf(x)
	}
	return out
}

func item(x api.PfItem) api.PfItem {
	x.Claims, x.States = each(x.Claims, claim), each(x.States, claim)
	return x
}

func claim(x api.PfClaim) api.PfClaim {
	x.Low, x.High = each(x.Low, square), each(x.High, square)
	return x
}

func square(x api.PfSquare) api.PfSquare {
	x.Poly = each(x.Poly, term)
	return x
}

func term(x api.PfTerm) api.PfTerm {
	x.Pows = slices.Clone(x.Pows)
	return x
}
