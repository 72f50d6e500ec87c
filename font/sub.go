package font

import (
	"cmp"

	"typecase/api"
)

// hasSub tells whether s may be a subtable of a lookup of the kind in f.
func hasSub(f api.Font, kind int, s api.Sub) bool {
	return ownRows(kind, s) == allRows(s) && hasRows(f, kind, s)
}

// ownRows returns how many elements are in those fields of s that belong to the kind.
func ownRows(kind int, s api.Sub) int {
	switch kind {
	case api.LkSingle, api.LkMultiple:
		return len(s.Cover) + len(s.To)
	case api.LkLigature:
		return len(s.Cover) + len(s.Ligs)
	case api.LkContext, api.LkPosContext:
		return len(s.Back) + len(s.In) + len(s.Ahead) + len(s.Nests)
	case api.LkReverse:
		return len(s.Cover) + len(s.To) + len(s.Back) + len(s.Ahead)
	case api.LkAdjust:
		return len(s.Cover) + len(s.Values)
	case api.LkPair:
		return len(s.Pairs)
	case api.LkCursive:
		return len(s.Curs)
	case api.LkMarkBase, api.LkMarkLig, api.LkMarkMark:
		return len(s.Marks) + len(s.Hosts)
	}
	return 0
}

// allRows returns how many elements are in all fields of s.
func allRows(s api.Sub) int {
	return len(s.Cover) + len(s.To) + len(s.Ligs) + len(s.Back) + len(s.In) + len(s.Ahead) +
		len(s.Nests) + len(s.Values) + len(s.Pairs) + len(s.Curs) + len(s.Marks) + len(s.Hosts)
}

// hasRows tells whether the fields of s that belong to the kind are as f and the kind want them.
func hasRows(f api.Font, kind int, s api.Sub) bool {
	switch kind {
	case api.LkSingle:
		return hasTo(f, s, 1, 1)
	case api.LkMultiple:
		return hasTo(f, s, 0, api.MaxSeq)
	case api.LkLigature:
		return hasLigs(f, s)
	case api.LkContext, api.LkPosContext:
		return hasContext(f, kind, s)
	case api.LkReverse:
		return hasTo(f, s, 1, 1) && hasSides(f, s)
	case api.LkAdjust:
		return hasCover(f, s.Cover) && len(s.Values) == len(s.Cover) && each(s.Values, api.MaxRows, isValue)
	case api.LkPair:
		return hasPairs(f, s.Pairs)
	case api.LkCursive:
		return hasCurs(f, s.Curs)
	case api.LkMarkLig:
		return hasMarks(f, s.Marks) && hasHosts(f, s.Hosts, api.MaxSeq)
	case api.LkMarkBase, api.LkMarkMark:
		return hasMarks(f, s.Marks) && hasHosts(f, s.Hosts, 1)
	}
	return false
}

// hasTo tells whether each glyph of the cover becomes from least to most glyphs.
func hasTo(f api.Font, s api.Sub, least, most int) bool {
	return hasCover(f, s.Cover) && len(s.To) == len(s.Cover) &&
		each(s.To, api.MaxRows, func(to []int) bool { return hasGlyphs(f, to, least, most) })
}

func hasLigs(f api.Font, s api.Sub) bool {
	count := 0
	for _, ligs := range s.Ligs {
		count += len(ligs)
	}
	return hasCover(f, s.Cover) && len(s.Ligs) == len(s.Cover) && count <= api.MaxRows &&
		each(s.Ligs, api.MaxRows, func(ligs []api.Lig) bool {
			return each(ligs, api.MaxRows, func(lig api.Lig) bool {
				return hasGlyphs(f, lig.Parts, 1, maxParts) && hasGlyph(f, lig.Glyph)
			})
		})
}

func hasContext(f api.Font, kind int, s api.Sub) bool {
	return hasCovers(f, s.In, 1, api.MaxSeq) && hasSides(f, s) &&
		each(s.Nests, api.MaxSeq, func(n api.Nest) bool {
			return within(n.At, 0, len(s.In)-1) &&
				within(n.Lookup, 0, len(f.Lookups)-1) && Sorts(f.Lookups[n.Lookup].Kind) == Sorts(kind)
		})
}

// hasSides tells whether f has the covers of what stands before and behind.
func hasSides(f api.Font, s api.Sub) bool {
	return hasCovers(f, s.Back, 0, api.MaxSeq) && hasCovers(f, s.Ahead, 0, api.MaxSeq)
}

func hasPairs(f api.Font, pairs []api.Pair) bool {
	return each(pairs, api.MaxRows, func(p api.Pair) bool {
		return hasGlyph(f, p.First) && hasGlyph(f, p.Second) && isValue(p.A) && isValue(p.B)
	}) && increases(pairs, func(a, b api.Pair) int {
		return cmp.Or(cmp.Compare(a.First, b.First), cmp.Compare(a.Second, b.Second))
	})
}

func hasCurs(f api.Font, curs []api.Curs) bool {
	return each(curs, api.MaxRows, func(c api.Curs) bool {
		return hasGlyph(f, c.Glyph) && isPlace(c.HasEntry, c.Entry) && isPlace(c.HasExit, c.Exit)
	}) && increasesBy(curs, func(c api.Curs) int { return c.Glyph })
}

func hasMarks(f api.Font, marks []api.MarkAt) bool {
	return each(marks, api.MaxRows, func(m api.MarkAt) bool {
		return hasGlyph(f, m.Glyph) && within(m.Class, 0, maxClass) && isAnchor(m.At)
	}) && increasesBy(marks, func(m api.MarkAt) int { return m.Glyph })
}

// hasHosts tells whether f has the hosts, and each of them has from 1 to so many parts.
func hasHosts(f api.Font, hosts []api.Host, parts int) bool {
	return each(hosts, api.MaxRows, func(h api.Host) bool {
		return hasGlyph(f, h.Glyph) && len(h.Spots) > 0 && each(h.Spots, parts, areSpots)
	}) && increasesBy(hosts, func(h api.Host) int { return h.Glyph })
}

func areSpots(spots []api.Spot) bool {
	return each(spots, api.MaxSeq, func(s api.Spot) bool { return isPlace(s.Has, s.At) })
}

// isPlace tells whether a may be an anchor that is present or not.
func isPlace(has bool, a api.Anchor) bool {
	return isAnchor(a) && (has || a == api.Anchor{})
}
