package font

import (
	"strings"

	"typecase/api"
)

// Clone returns a font that equals f and shares no memory with it.
func Clone(f api.Font) api.Font {
	return api.Font{
		Em:      f.Em,
		Glyphs:  cloneEach(f.Glyphs, cloneInfo),
		Maps:    cloneList(f.Maps),
		Lookups: cloneEach(f.Lookups, cloneLookup),
		Feats:   cloneEach(f.Feats, cloneFeat),
		Sets:    cloneLists(f.Sets),
	}
}

// cloneList returns a copy of a list whose elements hold no lists. It isn't slices.Clone, which returns a part of an empty list itself.
func cloneList[T any](list []T) []T { return append([]T(nil), list...) }

func cloneEach[T any](list []T, cloneOne func(x T) T) []T {
	var clones []T
	for _, x := range list {
		clones = append(clones, cloneOne(x))
	}
	return clones
}

func cloneLists[T any](lists [][]T) [][]T { return cloneEach(lists, cloneList[T]) }

func cloneInfo(g api.Info) api.Info {
	g.Carets = cloneList(g.Carets)
	return g
}

func cloneFeat(feat api.Feat) api.Feat {
	return api.Feat{Tag: strings.Clone(feat.Tag), Script: feat.Script, Lookups: cloneList(feat.Lookups)}
}

func cloneLookup(l api.Lookup) api.Lookup {
	l.Subs = cloneEach(l.Subs, cloneSub)
	return l
}

func cloneSub(s api.Sub) api.Sub {
	return api.Sub{
		Cover:  cloneList(s.Cover),
		To:     cloneLists(s.To),
		Ligs:   cloneEach(s.Ligs, cloneLigs),
		Back:   cloneLists(s.Back),
		In:     cloneLists(s.In),
		Ahead:  cloneLists(s.Ahead),
		Nests:  cloneList(s.Nests),
		Values: cloneList(s.Values),
		Pairs:  cloneList(s.Pairs),
		Curs:   cloneList(s.Curs),
		Marks:  cloneList(s.Marks),
		Hosts:  cloneEach(s.Hosts, cloneHost),
	}
}

func cloneLigs(ligs []api.Lig) []api.Lig { return cloneEach(ligs, cloneLig) }

func cloneLig(lig api.Lig) api.Lig {
	return api.Lig{Parts: cloneList(lig.Parts), Glyph: lig.Glyph}
}

func cloneHost(h api.Host) api.Host {
	return api.Host{Glyph: h.Glyph, Spots: cloneLists(h.Spots)}
}
