package proofs

import (
	"slices"

	"vernier/api"
	"vernier/copies"
	"vernier/exact"
)

// Join returns the proof that splits a box.
func Join(p api.Prog, input int, at api.Rat, a, b api.Proof) (api.Proof, api.Errno) {
	x, e := readProgram(p)
	switch {
	case e != api.OK:
		return api.Proof{}, e
	case !x.hasInput(input):
		return api.Proof{}, api.ErrRange
	}
	where, e := exact.Parse(at)
	switch {
	case e != api.OK:
		return api.Proof{}, e
	case !isBetween(where, x.box()[input]):
		return api.Proof{}, api.ErrRange
	}
	ends, e := readNumbers(a.Lo, a.Hi, a.Err, b.Lo, b.Hi, b.Err)
	switch {
	case e != api.OK:
		return api.Proof{}, e
	case 1+len(a.Items)+len(b.Items) > api.MaxItems:
		return api.Proof{}, api.ErrLong
	}
	split := []api.PfItem{{Kind: api.PfSplit, Input: input, At: at}}
	return api.Proof{
		Items: slices.Concat(split, copies.Items(a.Items), copies.Items(b.Items)),
		Lo:    ends[0].Min(ends[3]).Text(),
		Hi:    ends[1].Max(ends[4]).Text(),
		Err:   ends[2].Max(ends[5]).Text(),
	}, api.OK
}

// Same reports whether two proofs are equal.
func Same(a, b api.Proof) bool {
	return a.Lo == b.Lo && a.Hi == b.Hi && a.Err == b.Err && slices.EqualFunc(a.Items, b.Items, sameItem)
}

func sameItem(a, b api.PfItem) bool {
	return a.Kind == b.Kind && a.Input == b.Input && a.At == b.At &&
		slices.EqualFunc(a.Claims, b.Claims, sameClaim) && slices.EqualFunc(a.States, b.States, sameClaim)
}

func sameClaim(a, b api.PfClaim) bool {
	return a.Rule == b.Rule && a.Lo == b.Lo && a.Hi == b.Hi && a.Err == b.Err &&
		slices.EqualFunc(a.Low, b.Low, sameSquare) && slices.EqualFunc(a.High, b.High, sameSquare)
}

func sameSquare(a, b api.PfSquare) bool {
	return a.Coef == b.Coef && a.Input == b.Input && slices.EqualFunc(a.Poly, b.Poly, sameTerm)
}

func sameTerm(a, b api.PfTerm) bool { return a.Coef == b.Coef && slices.Equal(a.Pows, b.Pows) }
