package bounds

import (
	"slices"

	"vernier/api"
	"vernier/exact"
	"vernier/ranges"
)

// part is an item of a tree, and its box. A leaf whose claims have an error has no item.
type part struct {
	item api.PfItem
	box  []api.Span
	e    api.Errno
}

func (x part) isLeaf() bool { return x.item.Kind == api.PfLeaf }

// tree is the items of a proof, in their order.
type tree []part

func (t tree) items() []api.PfItem {
	out := make([]api.PfItem, len(t))
	for i, x := range t {
		out[i] = x.item
	}
	return out
}

// programBox returns the box of the program.
func (d *derivation) programBox() []api.Span {
	out := make([]api.Span, len(d.Inputs))
	for i, in := range d.Inputs {
		out[i] = api.Span{Lo: in.Lo, Hi: in.Hi}
	}
	return out
}

// partOver returns a leaf over a box.
func (d *derivation) partOver(box []api.Span) part {
	item, e := d.leafOver(box)
	return part{item, box, e}
}

// result returns what a leaf claims of the result.
func (d *derivation) result(x part) claim { return read(x.item.Claims[d.Result]) }

// grow derives the claims over the program's box, and over parts of it, as often as the plan
// says.
func (d *derivation) grow() tree {
	t := tree{d.partOver(d.programBox())}
	for range d.plan.Splits {
		at := d.chosen(t)
		halves, is := d.split(t[at])
		if !is {
			break
		}
		t = slices.Replace(t, at, at+1, halves...)
	}
	return t
}

// chosen returns the leaf that is split next.
func (d *derivation) chosen(t tree) int {
	at := -1
	var most exact.Num
	for i, x := range t {
		switch {
		case x.e != api.OK:
			return i
		case !x.isLeaf():
			continue
		}
		if err := d.result(x).err; at < 0 || err.Cmp(most) > 0 {
			at, most = i, err
		}
	}
	return at
}

// split returns a split of a leaf's box, and both halves, if the box can be split.
func (d *derivation) split(x part) (l tree, is bool) {
	input, e := ranges.Widest(x.box)
	if e != api.OK {
		return nil, false
	}
	at := middle(x.box[input])
	lower, upper, _ := ranges.Split(x.box, input, at)
	item := api.PfItem{Kind: api.PfSplit, Input: input, At: at}
	return tree{{item: item, box: x.box}, d.partOver(lower), d.partOver(upper)}, true
}

func middle(s api.Span) api.Rat {
	lo, _ := exact.Parse(s.Lo)
	hi, _ := exact.Parse(s.Hi)
	sum, _ := lo.Add(hi).Shift(-1)
	return sum.Text()
}

// join returns the least claim within which those of the result in all leaves are.
func (d *derivation) join(t tree) claim {
	results := d.results(t)
	out := results[0]
	for _, c := range results[1:] {
		out = out.join(c)
	}
	return out
}

func (d *derivation) results(t tree) []claim {
	var out []claim
	for _, x := range t {
		if x.isLeaf() {
			out = append(out, d.result(x))
		}
	}
	return out
}

// parts returns the items of an accepted proof with their boxes.
func (d *derivation) parts(items []api.PfItem) tree {
	var out tree
	open := [][]api.Span{d.programBox()} // the boxes of the items to come, the next one last
	for _, item := range items {
		last := len(open) - 1
		box := open[last]
		open = open[:last]
		if item.Kind == api.PfSplit {
			lower, upper, _ := ranges.Split(box, item.Input, item.At)
			open = append(open, upper, lower)
		}
		out = append(out, part{item: item, box: box})
	}
	return out
}

// prune puts halves together, the last ones first, so that what halves have become may itself
// be a half.
func (d *derivation) prune(items []api.PfItem) tree {
	t := d.parts(items)
	for i := len(t) - 1; i >= 0; i-- {
		if t[i].isLeaf() || !t[i+1].isLeaf() || !t[i+2].isLeaf() {
			continue
		}
		whole := d.partOver(t[i].box)
		if whole.e == api.OK && d.result(whole).isWithin(d.join(t[i+1:i+3])) {
			t = slices.Replace(t, i, i+3, whole)
		}
	}
	return t
}
