package brackets

import (
	"slices"

	"typecase/api"
	"typecase/props"
)

// none is the direction of what has none; it is no class.
const none = 0

// pairDirection returns the direction that both brackets of the pair take where the embedding level has direction e, or none if they stay as they are.
func pairDirection(classes []int, pair [2]int, e, sos int) int {
	content := classes[pair[0]+1 : pair[1]]
	other := opposite(e)
	switch {
	case contains(content, e):
		return e
	case !contains(content, other):
		return none
	case lastOf(classes[:pair[0]], sos) == other:
		return other
	}
	return e
}

// turn gives the bracket at position i of t the class dir, and so all NSM characters directly after it: they are marks on the bracket.
func turn(t []rune, classes []int, i, dir int) {
	classes[i] = dir
	for i++; i < len(t) && props.Of(t[i]).Bidi == api.BidiNSM; i++ {
		classes[i] = dir
	}
}

// contains tells whether one of the classes is of direction dir.
func contains(classes []int, dir int) bool {
	return slices.ContainsFunc(classes, func(class int) bool { return ofClass(class) == dir })
}

// lastOf returns the direction of the last of the classes that has one, or sos if none has.
func lastOf(classes []int, sos int) int {
	for _, class := range slices.Backward(classes) {
		if dir := ofClass(class); dir != none {
			return dir
		}
	}
	return sos
}

// ofClass returns the direction of the class: numbers count as R.
func ofClass(class int) int {
	switch class {
	case api.BidiL:
		return api.BidiL
	case api.BidiR, api.BidiEN, api.BidiAN:
		return api.BidiR
	}
	return none
}

// ofLevel returns the direction of the embedding level.
func ofLevel(level int) int {
	if level%2 == 0 {
		return api.BidiL
	}
	return api.BidiR
}

// opposite returns the other one of the two directions.
func opposite(dir int) int {
	if dir == api.BidiL {
		return api.BidiR
	}
	return api.BidiL
}
