package seqs

import (
	"typecase/api"
	"typecase/base"
	"typecase/explicit"
)

// isolateMatches returns for each initiator and each PDI the position of the one that it matches, and None for all else.
func isolateMatches(classes []int) []int { return base.Match(classes) }

// initiates tells whether the class is that of an isolate initiator.
func initiates(class int) bool {
	return class == api.BidiLRI || class == api.BidiRLI || class == api.BidiFSI
}

// appendKept appends the positions of the run to the list, but not those of removed code points.
func appendKept(list, classes []int, run api.Cut) []int {
	for i := run.From; i < run.To; i++ {
		if !explicit.Removed(classes[i]) {
			list = append(list, i)
		}
	}
	return list
}

// levelBefore returns the level of the code point before the run of index k, or base if there is none. As runs leave no code point out, that is the last one of the run before.
func levelBefore(levels []int, base int, runs []api.Cut, k int) int {
	if k == 0 {
		return base
	}
	return levels[runs[k-1].To-1]
}

// levelAfter returns the level of the code point after the run of index k, or base if there is none.
func levelAfter(levels []int, base int, runs []api.Cut, k int) int {
	if k == len(runs)-1 {
		return base
	}
	return levels[runs[k+1].From]
}

// direction returns the strong class that the greater of the two levels stands for.
func direction(level, beside int) int {
	if max(level, beside)%2 == 0 {
		return api.BidiL
	}
	return api.BidiR
}
