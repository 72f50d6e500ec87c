package font

import "typecase/api"

// magic is what the encoding of each font begins with.
const magic = "TCF1"

// A number is written in groups of so many bits, each in a byte; the bit above them is set where more bytes follow.
const (
	groupBits = 7
	moreFlag  = 1 << groupBits
)

// Encode returns the encoding of f, or ErrFont if f is not valid.
func Encode(f api.Font) ([]byte, api.Errno) {
	if e := Check(f); e != api.OK {
		return nil, e
	}
	b := appendNumbers([]byte(magic), f.Em)
	b = appendList(b, f.Glyphs, appendInfo)
	b = appendList(b, f.Maps, appendMap)
	b = appendList(b, f.Lookups, appendLookup)
	b = appendList(b, f.Feats, appendFeat)
	return appendList(b, f.Sets, appendGlyphs), api.OK
}

func appendNumber(b []byte, n int) []byte {
	rest := uint64(n) << 1
	if n < 0 {
		rest = ^rest
	}
	for ; rest >= moreFlag; rest >>= groupBits {
		b = append(b, byte(rest)|moreFlag)
	}
	return append(b, byte(rest))
}

func appendNumbers(b []byte, numbers ...int) []byte {
	for _, n := range numbers {
		b = appendNumber(b, n)
	}
	return b
}

// appendList appends the length of the list, and each of its elements.
func appendList[T any](b []byte, list []T, appendOne func(b []byte, x T) []byte) []byte {
	b = appendNumber(b, len(list))
	for _, x := range list {
		b = appendOne(b, x)
	}
	return b
}

func appendBool(b []byte, yes bool) []byte {
	if yes {
		return appendNumber(b, 1)
	}
	return appendNumber(b, 0)
}

func appendGlyphs(b []byte, glyphs []int) []byte { return appendList(b, glyphs, appendNumber) }

func appendInfo(b []byte, g api.Info) []byte {
	b = appendNumbers(b, g.Adv, g.Kind, g.Attach)
	return appendList(b, g.Carets, appendNumber)
}

func appendMap(b []byte, m api.Map) []byte { return appendNumbers(b, int(m.Code), m.Glyph) }

func appendFeat(b []byte, feat api.Feat) []byte {
	b = append(b, feat.Tag...)
	b = appendNumber(b, feat.Script)
	return appendList(b, feat.Lookups, appendNumber)
}

func appendLookup(b []byte, l api.Lookup) []byte {
	b = appendNumbers(b, l.Kind, l.Flags, l.Set)
	return appendList(b, l.Subs, appendSub)
}

func appendSub(b []byte, s api.Sub) []byte {
	b = appendGlyphs(b, s.Cover)
	b = appendList(b, s.To, appendGlyphs)
	b = appendList(b, s.Ligs, appendLigs)
	b = appendList(b, s.Back, appendGlyphs)
	b = appendList(b, s.In, appendGlyphs)
	b = appendList(b, s.Ahead, appendGlyphs)
	b = appendList(b, s.Nests, appendNest)
	b = appendList(b, s.Values, appendValue)
	b = appendList(b, s.Pairs, appendPair)
	b = appendList(b, s.Curs, appendCurs)
	b = appendList(b, s.Marks, appendMark)
	return appendList(b, s.Hosts, appendHost)
}

func appendLigs(b []byte, ligs []api.Lig) []byte { return appendList(b, ligs, appendLig) }

func appendLig(b []byte, lig api.Lig) []byte {
	b = appendGlyphs(b, lig.Parts)
	return appendNumber(b, lig.Glyph)
}

func appendNest(b []byte, n api.Nest) []byte { return appendNumbers(b, n.At, n.Lookup) }

func appendValue(b []byte, v api.Value) []byte { return appendNumbers(b, v.Adv, v.DX, v.DY) }

func appendPair(b []byte, p api.Pair) []byte {
	b = appendNumbers(b, p.First, p.Second)
	b = appendValue(b, p.A)
	return appendValue(b, p.B)
}

func appendCurs(b []byte, c api.Curs) []byte {
	b = appendNumber(b, c.Glyph)
	b = appendBool(b, c.HasEntry)
	b = appendBool(b, c.HasExit)
	b = appendAnchor(b, c.Entry)
	return appendAnchor(b, c.Exit)
}

func appendMark(b []byte, m api.MarkAt) []byte {
	b = appendNumbers(b, m.Glyph, m.Class)
	return appendAnchor(b, m.At)
}

func appendHost(b []byte, h api.Host) []byte {
	b = appendNumber(b, h.Glyph)
	return appendList(b, h.Spots, appendSpots)
}

func appendSpots(b []byte, spots []api.Spot) []byte { return appendList(b, spots, appendSpot) }

func appendSpot(b []byte, s api.Spot) []byte {
	b = appendBool(b, s.Has)
	return appendAnchor(b, s.At)
}

func appendAnchor(b []byte, a api.Anchor) []byte { return appendNumbers(b, a.X, a.Y) }
