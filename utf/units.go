package utf

import "typecase/api"

// The surrogates lie from firstHigh up to afterLow; the runes from firstPair on are written as two of them.
const (
	firstHigh = 0xD800
	firstLow  = 0xDC00
	afterLow  = 0xE000
	firstPair = 0x10000
)

// A surrogate carries lowBits bits of a rune, those under lowMask.
const (
	lowBits = 10
	lowMask = 1<<lowBits - 1
)

// Units returns t in UTF-16, or ErrText if t is not valid.
func Units(t []rune) ([]uint16, api.Errno) {
	if !Right(t) {
		return nil, api.ErrText
	}
	var u []uint16
	for _, r := range t {
		if r < firstPair {
			u = append(u, uint16(r))
			continue
		}
		offset := r - firstPair
		u = append(u, uint16(firstHigh+offset>>lowBits), uint16(firstLow+offset&lowMask))
	}
	return u, api.OK
}

// FromUnits returns the runes of the UTF-16 text u and the number of its units, or the position of the first fault and ErrEnd or ErrForm.
func FromUnits(u []uint16) ([]rune, int, api.Errno) {
	var t []rune
	for at := 0; at < len(u); {
		rest := u[at:]
		r, n := character(rest)
		if n == 0 && len(rest) == 1 && isHigh(rest[0]) {
			return nil, at, api.ErrEnd
		}
		if n == 0 {
			return nil, at, api.ErrForm
		}
		t = append(t, r)
		at += n
	}
	return t, len(u), api.OK
}

// character returns the rune that u, which is not empty, begins with and the number of its units, which is 0 if u begins with none.
func character(u []uint16) (rune, int) {
	first := u[0]
	if !isHigh(first) && !isLow(first) {
		return rune(first), 1
	}
	if isLow(first) || len(u) == 1 || !isLow(u[1]) {
		return 0, 0
	}
	return firstPair + rune(first-firstHigh)<<lowBits + rune(u[1]-firstLow), 2
}

func isHigh(unit uint16) bool { return unit >= firstHigh && unit < firstLow }

func isLow(unit uint16) bool { return unit >= firstLow && unit < afterLow }
