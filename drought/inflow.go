package drought

import (
	"sort"

	"quinaria/api"
)

// withInflow returns a tree with another Inflow.
func withInflow(t api.DroughtTree, inflow int) api.DroughtTree {
	t.Inflow = inflow
	return t
}

// Spans returns the least and the greatest shares over some Inflows.
func Spans(t api.DroughtTree, low, high int) ([]api.Span, api.Errno) {
	if !isTree(t) || !areCups(low) || !areCups(high) || high < low {
		return nil, api.ErrArg
	}
	// With a greater Inflow nobody gets less.
	ends := [2]func(outlet int) int{lawful(withInflow(t, low)).share, lawful(withInflow(t, high)).share}
	var spans []api.Span
	for i := range len(t.Outlets) {
		spans = append(spans, api.Span{Low: ends[0](i), High: ends[1](i)})
	}
	return spans, api.OK
}

// Needs returns the least Inflow with which an outlet gets some cups.
func Needs(t api.DroughtTree, outlet, cups int) (int, api.Errno) {
	if !isTree(t) || !isOutlet(t, outlet) || !isFrom(1, t.Outlets[outlet].Claim, cups) {
		return 0, api.ErrArg
	}
	// As nobody gets less with a greater Inflow, it is found by halves.
	inflow := sort.Search(1+api.DroughtCups, func(inflow int) bool {
		return lawful(withInflow(t, inflow)).share(outlet) >= cups
	})
	if !areCups(inflow) {
		return 0, api.ErrNone
	}
	return inflow, api.OK
}

// Keeps returns the least Inflow with which a class, and all before it, get their claims.
func Keeps(t api.DroughtTree, class int) (int, api.Errno) {
	if !isTree(t) || !isClass(class) {
		return 0, api.ErrArg
	}
	// Less than all that they claim is not enough; and this is, if channels carry it to them, as no class after them takes of it.
	inflow := sum(claimsUpTo(t, class)...)
	if !areCups(inflow) || !lawful(withInflow(t, inflow)).isKept(class) {
		return 0, api.ErrNone
	}
	return inflow, api.OK
}

// claimsUpTo returns the claims of a class and of all before it.
func claimsUpTo(t api.DroughtTree, class int) (claims []int) {
	for _, x := range t.Outlets {
		if x.Class <= class {
			claims = append(claims, x.Claim)
		}
	}
	return claims
}

// isKept reports whether a class, and all before it, get their claims.
func (s *served) isKept(class int) bool {
	for i := range len(s.Outlets) {
		if s.Outlets[i].Class <= class && !s.isServed(i) {
			return false
		}
	}
	return true
}

func sum(cups ...int) int {
	total := 0
	for _, n := range cups {
		total += n
	}
	return total
}
