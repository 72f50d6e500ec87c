package weak

import (
	"slices"

	"typecase/api"
)

// startClass returns the class at the start of a sequence: any number but R counts as L.
func startClass(sos int) int {
	if sos == api.BidiR {
		return api.BidiR
	}
	return api.BidiL
}

// marks gives each NSM the class of what is before it, start at the start (W1).
func marks(classes []int, start int) {
	before := start
	for i, class := range classes {
		if class == api.BidiNSM {
			classes[i] = lent(before)
		}
		before = classes[i]
	}
}

// lent returns the class that an NSM behind the class takes.
func lent(class int) int {
	switch class {
	case api.BidiLRI, api.BidiRLI, api.BidiFSI, api.BidiPDI:
		return api.BidiON
	}
	if class < api.BidiL || class > api.BidiPDI {
		// The number counts as ON, and stays what it is; the NSM becomes an ON, not another such number.
		return api.BidiON
	}
	return class
}

// turnNumbers turns each EN into the class into if the nearest L, R or AL before it is behind; at the start nearest counts as that (W2 and W7).
func turnNumbers(classes []int, nearest, behind, into int) {
	for i, class := range classes {
		switch class {
		case api.BidiL, api.BidiR, api.BidiAL:
			nearest = class
		case api.BidiEN:
			if nearest == behind {
				classes[i] = into
			}
		}
	}
}

// arabicLetters turns each AL into R (W3).
func arabicLetters(classes []int) {
	for i, class := range classes {
		if class == api.BidiAL {
			classes[i] = api.BidiR
		}
	}
}

// separators turns each ES or CS that joins two numbers of one kind into that kind (W4).
func separators(classes []int) {
	for i := 1; i+1 < len(classes); i++ {
		before, after := classes[i-1], classes[i+1]
		if before == after && joins(classes[i], before) {
			classes[i] = before
		}
	}
}

// joins tells whether a separator of the class joins two numbers of the kind.
func joins(class, kind int) bool {
	switch class {
	case api.BidiES:
		return kind == api.BidiEN
	case api.BidiCS:
		return kind == api.BidiEN || kind == api.BidiAN
	}
	return false
}

// terminators turns the ET beside an EN, and those beside them, into EN (W5): first those behind one, then those before one.
func terminators(classes []int) {
	before := 0
	for i, class := range classes {
		if class == api.BidiET && before == api.BidiEN {
			classes[i] = api.BidiEN
		}
		before = classes[i]
	}
	after := 0
	for i, class := range slices.Backward(classes) {
		if class == api.BidiET && after == api.BidiEN {
			classes[i] = api.BidiEN
		}
		after = classes[i]
	}
}

// leftovers turns what is left of the separators and terminators into ON (W6).
func leftovers(classes []int) {
	for i, class := range classes {
		switch class {
		case api.BidiES, api.BidiET, api.BidiCS:
			classes[i] = api.BidiON
		}
	}
}
