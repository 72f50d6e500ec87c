package words

import (
	"typecase/api"
	"typecase/grapheme"
	"typecase/props"
)

// joined tells whether one of the rules applies between the second and the third of four clusters in a row, whose kinds are given. A place where the text has no cluster counts as Other, which no rule asks for.
func joined(kinds [4]int) bool {
	before, after := kinds[1], kinds[2]
	switch {
	case isAlnum(before) && isAlnum(after):
		return true
	case before == api.WdJoin:
		return isAlnum(after) || after == api.WdJoin
	case after == api.WdJoin:
		return isAlnum(before)
	case before == api.WdSpace:
		return after == api.WdSpace
	}
	return bridged(kinds, api.WdLetter, api.WdMid) || bridged(kinds, api.WdDigit, api.WdMidNum)
}

// bridged tells whether the two clusters in the middle are part of a row of three, of which the middle one is of kind bridge and the others are of kind bank.
func bridged(kinds [4]int, bank, bridge int) bool {
	row := [3]int{bank, bridge, bank}
	return [3]int(kinds[:3]) == row || [3]int(kinds[1:]) == row
}

// near returns the kinds of the two clusters before the boundary i of t and of the two after it. Beyond the ends of the text clusters are empty, and so of kind Other.
func near(t []rune, i int) [4]int {
	from, to := grapheme.Prev(t, i), grapheme.Next(t, i)
	return [4]int{kindOf(t[grapheme.Prev(t, from):from]), kindOf(t[from:i]), kindOf(t[i:to]), kindOf(t[to:grapheme.Next(t, to)])}
}

// kindsOf returns the kinds of the clusters of t, with one more before them and two more after them, so that each cluster has a neighbour before it and two after it.
func kindsOf(t []rune, clusters []api.Cut) []int {
	kinds := []int{api.WdOther}
	for _, c := range clusters {
		kinds = append(kinds, kindOf(t[c.From:c.To]))
	}
	return append(kinds, api.WdOther, api.WdOther)
}

// kindOf returns the kind of the cluster.
func kindOf(cluster []rune) int {
	for _, r := range cluster {
		if kind := class(r); kind != api.WdExtend {
			return kind
		}
	}
	return api.WdOther
}

// class returns the Word class of r.
func class(r rune) int { return props.Of(r).Word }

// isAlnum tells whether the kind is Letter or Digit.
func isAlnum(kind int) bool { return kind == api.WdLetter || kind == api.WdDigit }
