package font

import (
	"cmp"
	"slices"
	"unicode/utf8"

	"typecase/api"
)

// The limits that api doesn't name.
const (
	maxAttach  = 255
	maxCarets  = api.MaxSeq - 1 // a ligature of MaxSeq parts has this many places between them
	maxParts   = api.MaxSeq - 1 // the first glyph of a ligature is not one of its Parts
	maxClass   = api.MaxSeq - 1
	maxFlags   = 65535
	tagBytes   = 4
	minTagByte = 33
	maxTagByte = 126
)

// Of the flags of a lookup, the lower eight bits are these alone; those above them are the Attach class of a mark.
const (
	lowerFlags = 255
	knownFlags = api.NoBases | api.NoLigs | api.NoMarks | api.OneSet
)

// Check returns OK if f is valid, and ErrFont otherwise.
func Check(f api.Font) api.Errno {
	if isValid(f) {
		return api.OK
	}
	return api.ErrFont
}

func isValid(f api.Font) bool {
	return within(f.Em, 1, api.MaxEm) &&
		len(f.Glyphs) > 0 && each(f.Glyphs, api.MaxGlyphs, isInfo) &&
		hasMaps(f) &&
		hasCovers(f, f.Sets, 0, api.MaxSets) &&
		each(f.Lookups, api.MaxLookups, func(l api.Lookup) bool { return hasLookup(f, l) }) &&
		hasFeats(f)
}

// within tells whether n is from least to most.
func within(n, least, most int) bool { return n >= least && n <= most }

// each tells whether there are at most so many elements, and the condition holds for all of them.
func each[T any](list []T, most int, holds func(T) bool) bool {
	return len(list) <= most && !slices.ContainsFunc(list, func(x T) bool { return !holds(x) })
}

// increases tells whether each element is greater than the one before it.
func increases[T any](list []T, compare func(a, b T) int) bool {
	for i := range list {
		if i > 0 && compare(list[i-1], list[i]) >= 0 {
			return false
		}
	}
	return true
}

// increasesBy tells whether the key of each element is greater than that of the one before it.
func increasesBy[T any](list []T, key func(T) int) bool {
	return increases(list, func(a, b T) int { return cmp.Compare(key(a), key(b)) })
}

func isMeasure(n int) bool { return within(n, -api.MaxUnit, api.MaxUnit) }

func isAnchor(a api.Anchor) bool { return isMeasure(a.X) && isMeasure(a.Y) }

func isValue(v api.Value) bool { return isMeasure(v.Adv) && isMeasure(v.DX) && isMeasure(v.DY) }

func isInfo(g api.Info) bool {
	return isMeasure(g.Adv) &&
		within(g.Kind, api.GkNone, api.GkMark) &&
		within(g.Attach, 0, maxAttach) &&
		each(g.Carets, maxCarets, isMeasure) && increases(g.Carets, cmp.Compare[int]) &&
		(g.Kind == api.GkLig || len(g.Carets) == 0)
}

func hasGlyph(f api.Font, glyph int) bool { return within(glyph, 0, len(f.Glyphs)-1) }

// hasGlyphs tells whether there are from least to most of these glyphs, and f has them all.
func hasGlyphs(f api.Font, glyphs []int, least, most int) bool {
	return len(glyphs) >= least && each(glyphs, most, func(glyph int) bool { return hasGlyph(f, glyph) })
}

func hasCover(f api.Font, cover []int) bool {
	return hasGlyphs(f, cover, 0, api.MaxRows) && increases(cover, cmp.Compare[int])
}

// hasCovers tells whether there are from least to most of these covers, and f has them all.
func hasCovers(f api.Font, covers [][]int, least, most int) bool {
	return len(covers) >= least && each(covers, most, func(cover []int) bool { return hasCover(f, cover) })
}

func hasMaps(f api.Font) bool {
	return each(f.Maps, api.MaxMaps, func(m api.Map) bool { return utf8.ValidRune(m.Code) && hasGlyph(f, m.Glyph) }) &&
		increasesBy(f.Maps, func(m api.Map) int { return int(m.Code) })
}

func hasLookup(f api.Font, l api.Lookup) bool {
	return Sorts(l.Kind) != 0 &&
		within(l.Flags, 0, maxFlags) && l.Flags&lowerFlags&^knownFlags == 0 &&
		hasSet(f, l) &&
		each(l.Subs, api.MaxSubs, func(s api.Sub) bool { return hasSub(f, l.Kind, s) })
}

func hasSet(f api.Font, l api.Lookup) bool {
	if l.Flags&api.OneSet == 0 {
		return l.Set == 0
	}
	return within(l.Set, 0, len(f.Sets)-1)
}

func hasFeats(f api.Font) bool {
	return each(f.Feats, api.MaxFeats, func(feat api.Feat) bool { return hasFeat(f, feat) }) && differ(f.Feats)
}

// differ tells whether no two of the features have the same Tag and Script.
func differ(feats []api.Feat) bool {
	for i, a := range feats {
		if slices.ContainsFunc(feats[:i], func(b api.Feat) bool { return a.Tag == b.Tag && a.Script == b.Script }) {
			return false
		}
	}
	return true
}

func hasFeat(f api.Font, feat api.Feat) bool {
	return isTag(feat.Tag) &&
		(feat.Script == api.None || within(feat.Script, api.ScCommon, api.ScDevanagari)) &&
		each(feat.Lookups, api.MaxLookups, func(i int) bool { return within(i, 0, len(f.Lookups)-1) }) &&
		increases(feat.Lookups, cmp.Compare[int])
}

func isTag(tag string) bool {
	return len(tag) == tagBytes && each([]byte(tag), tagBytes, isTagByte)
}

func isTagByte(b byte) bool { return b >= minTagByte && b <= maxTagByte }
