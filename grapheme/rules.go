package grapheme

import (
	"typecase/api"
	"typecase/props"
)

// joined tells whether a rule applies at position i of t, which is neither the start nor the end.
func joined(t []rune, i int) bool {
	before, after := class(t[i-1]), class(t[i])
	switch {
	case isBreak(before):
		return before == api.ClCR && after == api.ClLF
	case isAttached(after) || after == api.ClSpacing:
		return true
	case before == api.ClPrepend:
		return !isBreak(after)
	case before == api.ClZWJ:
		return after == api.ClPicture && endsInPicture(t[:i-1])
	case before == api.ClRegional:
		return after == api.ClRegional && oddRegionals(t[:i])
	}
	return sameSyllable(before, after)
}

// sameSyllable tells whether the classes stand side by side within a Hangul syllable.
func sameSyllable(before, after int) bool {
	switch before {
	case api.ClL:
		return after == api.ClL || after == api.ClV || after == api.ClLV || after == api.ClLVT
	case api.ClLV, api.ClV:
		return after == api.ClV || after == api.ClT
	case api.ClLVT, api.ClT:
		return after == api.ClT
	}
	return false
}

// endsInPicture tells whether t ends in a Picture and any number of Extend code points behind it.
func endsInPicture(t []rune) bool {
	last := len(t) - 1
	for last >= 0 && class(t[last]) == api.ClExtend {
		last--
	}
	return last >= 0 && class(t[last]) == api.ClPicture
}

// oddRegionals tells whether the number of Regional code points at the end of t is odd.
func oddRegionals(t []rune) bool {
	odd := false
	for i := len(t) - 1; i >= 0 && isRegional(class(t[i])); i-- {
		odd = !odd
	}
	return odd
}

// class returns the Cluster class of r.
func class(r rune) int { return props.Of(r).Cluster }

// isBreak tells whether the class is one that stands apart from all but one of its neighbours: CR, LF or Control.
func isBreak(class int) bool {
	return class == api.ClCR || class == api.ClLF || class == api.ClControl
}

// isAttached tells whether the class is one of those that lengthen a cluster and may stand between two Pictures of one: Extend or ZWJ.
func isAttached(class int) bool { return class == api.ClExtend || class == api.ClZWJ }

// isRegional tells whether the class is that of half a flag.
func isRegional(class int) bool { return class == api.ClRegional }
