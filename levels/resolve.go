package levels

import (
	"slices"
	"unicode/utf8"

	"typecase/api"
	"typecase/base"
	"typecase/brackets"
	"typecase/explicit"
	"typecase/neutral"
	"typecase/props"
	"typecase/seqs"
	"typecase/weak"
)

// check returns what keeps t from being a paragraph in the direction dir, or OK.
func check(t []rune, dir int) api.Errno {
	switch {
	case slices.ContainsFunc(t, func(r rune) bool { return !utf8.ValidRune(r) }):
		return api.ErrText
	case dir != api.DirAuto && dir != api.DirLeft && dir != api.DirRight:
		return api.ErrArg
	case len(base.Paras(t)) > 1:
		return api.ErrKind
	case len(t) > api.MaxRunes:
		return api.ErrMany
	}
	return api.OK
}

// resolve returns the level of each code point of t in a paragraph of the given level.
func resolve(t []rune, level int) []int {
	own := props.Bidi(t)
	levels, classes := explicit.Levels(own, level)
	for _, seq := range seqs.Of(own, levels, level) {
		text, within := pick(t, seq.At), pick(classes, seq.At)
		for k, implicit := range sequenceLevels(text, within, seq) {
			levels[seq.At[k]] = implicit
		}
	}
	followRemoved(levels, own, level)
	return levels
}

// sequenceLevels returns the levels of the code points of a sequence, whose text and classes are given.
func sequenceLevels(text []rune, classes []int, seq seqs.Seq) []int {
	classes = weak.Weak(classes, seq.Sos)
	classes = brackets.Resolve(text, classes, seq.Level, seq.Sos)
	classes = neutral.Neutral(classes, seq.Level, seq.Sos, seq.Eos)
	return neutral.Implicit(classes, seq.Level)
}

// pick returns the elements of the list at the given places.
func pick[T any](list []T, at []int) []T {
	picked := make([]T, len(at))
	for k, i := range at {
		picked[k] = list[i]
	}
	return picked
}

// followRemoved gives each removed code point the level of the one before it, and those at the beginning the level of the paragraph.
func followRemoved(levels, own []int, level int) {
	before := level
	for i, class := range own {
		if explicit.Removed(class) {
			levels[i] = before
		}
		before = levels[i]
	}
}
