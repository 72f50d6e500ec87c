package breaks

import (
	"slices"

	"typecase/api"
	"typecase/props"
)

// past is what the rules ask about the code points before a position. Classes of code points that aren't there are api.None.
type past struct {
	own, class   int  // own A and A
	ahead        int  // the resolved class of the code point before the base of A
	ownS, classS int  // own S and S
	odd          bool // the number of regional indicators directly before the position is odd
}

// nothing is what stands before position 0.
func nothing() past {
	return past{own: api.None, class: api.None, ahead: api.None, ownS: api.None, classS: api.None}
}

// and returns what is before the next position if a code point of the own class stands between the two.
func (p past) and(own int) past {
	next := past{own: own, class: p.resolve(own), ahead: p.class}
	next.ownS, next.classS = own, next.class
	if p.lends(own) {
		next.ahead = p.ahead
	}
	if own == api.BrSP {
		next.ownS, next.classS = p.ownS, p.classS
	}
	switch {
	case own == api.BrRI:
		next.odd = !p.odd
	case isAttached(own):
		next.odd = p.odd
	}
	return next
}

// resolve returns the resolved class of the code point after the position, whose own class is given.
func (p past) resolve(own int) int {
	switch {
	case p.lends(own):
		return p.class
	case isAttached(own):
		return api.BrAL
	}
	return own
}

// lends tells whether a code point of the own class takes its class from the one before it.
func (p past) lends(own int) bool {
	return isAttached(own) && !isLineEnd(p.own) && !among(p.own, api.None, api.BrSP, api.BrZW)
}

// kind returns the kind of a cluster boundary that is neither the first position nor the last one, by what is before it and the own class of the code point after it. The first case that applies decides.
func kind(p past, own int) int {
	a, b := p.class, p.resolve(own)
	switch {
	case isLineEnd(p.own):
		return Must
	case isLineEnd(own), among(own, api.BrSP, api.BrZW):
		return No
	case p.ownS == api.BrZW:
		return May
	case p.own == api.BrZWJ, isAttached(own) && p.own != api.BrSP:
		return No
	case isGlued(a, b), isEnclosed(p.classS, b):
		return No
	case p.own == api.BrSP:
		return May
	case isHyphened(p.ahead, a, b), isAmount(a, b), isNumber(a, b), isSyllable(a, b), isWord(a, b):
		return No
	case a == api.BrRI && b == api.BrRI && p.odd:
		return No
	}
	return May
}

// isGlued is for what holds on to both of its sides.
func isGlued(a, b int) bool {
	switch {
	case a == api.BrWJ, b == api.BrWJ, a == api.BrGL:
		return true
	}
	return b == api.BrGL && !among(a, api.BrSP, api.BrBA, api.BrHY)
}

// isEnclosed is for brackets, and for marks that end something, also with spaces between s and b.
func isEnclosed(s, b int) bool {
	switch b {
	case api.BrCL, api.BrCP, api.BrEX, api.BrIS, api.BrSY:
		return true
	case api.BrOP:
		return s == api.BrOP || s == api.BrQU
	case api.BrNS:
		return among(s, api.BrOP, api.BrCL, api.BrCP)
	}
	return s == api.BrOP
}

// isHyphened is for quotation marks, hyphens, and what else holds on to one side; ahead is the class before the base of a.
func isHyphened(ahead, a, b int) bool {
	switch {
	case a == api.BrQU, a == api.BrBB, among(b, api.BrQU, api.BrBA, api.BrHY, api.BrNS, api.BrIN):
		return true
	case a == api.BrSY:
		return b == api.BrHL
	}
	return ahead == api.BrHL && (a == api.BrHY || a == api.BrBA)
}

// isAmount is for letters beside digits, and for signs that are written before or after an amount.
func isAmount(a, b int) bool {
	switch {
	case isLetter(a) && b == api.BrNU, isLetter(b) && a == api.BrNU:
		return true
	case a == api.BrPR && isPicture(b), b == api.BrPO && isPicture(a):
		return true
	}
	return isSign(a) && isLetter(b) || isSign(b) && isLetter(a)
}

// isNumber is for what stands around digits.
func isNumber(a, b int) bool {
	switch {
	case isSign(b):
		return among(a, api.BrCL, api.BrCP, api.BrNU)
	case b == api.BrOP:
		return isSign(a)
	case b == api.BrNU:
		return isSign(a) || among(a, api.BrHY, api.BrIS, api.BrNU, api.BrSY)
	}
	return false
}

// isSyllable is for Hangul.
func isSyllable(a, b int) bool {
	if a == api.BrPR && isHangul(b) || b == api.BrPO && isHangul(a) {
		return true
	}
	switch a {
	case api.BrJL:
		return among(b, api.BrJL, api.BrJV, api.BrH2, api.BrH3)
	case api.BrJV, api.BrH2:
		return b == api.BrJV || b == api.BrJT
	case api.BrJT, api.BrH3:
		return b == api.BrJT
	}
	return false
}

// isWord is for letters, for brackets directly beside letters or digits, and for the shades of emoji.
func isWord(a, b int) bool {
	switch {
	case isLetter(b):
		return isLetter(a) || a == api.BrIS || a == api.BrCP
	case b == api.BrOP:
		return isLetter(a) || a == api.BrNU
	case b == api.BrNU:
		return a == api.BrCP
	}
	return a == api.BrEB && b == api.BrEM
}

// ownClass returns the own class of r.
func ownClass(r rune) int { return props.Of(r).Break }

// isLineEnd tells whether a code point of the own class ends a line.
func isLineEnd(own int) bool { return among(own, api.BrBK, api.BrCR, api.BrLF) }

// isAttached tells whether a code point of the own class is written on the one before it.
func isAttached(own int) bool { return own == api.BrCM || own == api.BrZWJ }

// isCarried tells whether the kinds behind a code point of the own class may hang on what stands before it.
func isCarried(own int) bool {
	return isAttached(own) || among(own, api.BrSP, api.BrRI, api.BrEM)
}

// isLetter is for the classes of letters of alphabets.
func isLetter(class int) bool { return class == api.BrAL || class == api.BrHL }

// isPicture is for the classes of ideographs and emoji.
func isPicture(class int) bool { return among(class, api.BrID, api.BrEB, api.BrEM) }

// isSign is for the classes of signs that are written before or after an amount.
func isSign(class int) bool { return class == api.BrPR || class == api.BrPO }

// isHangul is for the classes of Hangul syllables and their parts.
func isHangul(class int) bool {
	return among(class, api.BrJL, api.BrJV, api.BrJT, api.BrH2, api.BrH3)
}

func among(class int, classes ...int) bool { return slices.Contains(classes, class) }
