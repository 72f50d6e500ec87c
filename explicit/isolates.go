package explicit

import (
	"typecase/api"
	"typecase/base"
)

// initiates tells whether the class is that of an isolate initiator.
func initiates(class int) bool {
	return class == api.BidiLRI || class == api.BidiRLI || class == api.BidiFSI
}

// isolateEnds returns for each isolate initiator the position at which what it isolates ends: that of its PDI, or the end of the classes.
func isolateEnds(classes []int) []int {
	ends := base.Match(classes)
	for i, end := range ends {
		if end == api.None {
			ends[i] = len(classes)
		}
	}
	return ends
}

// leftward tells whether an isolate, of which the initiator and what it isolates are given, runs from right to left.
func leftward(isolate []int) bool {
	if isolate[0] != api.BidiFSI {
		return isolate[0] == api.BidiRLI
	}
	first := base.First(isolate, 1, len(isolate))
	return first == api.BidiR || first == api.BidiAL
}
