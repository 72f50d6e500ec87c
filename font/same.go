package font

import (
	"slices"

	"typecase/api"
)

// Same reports whether all fields of a and b are equal.
func Same(a, b api.Font) bool {
	return a.Em == b.Em &&
		slices.EqualFunc(a.Glyphs, b.Glyphs, sameInfo) &&
		slices.Equal(a.Maps, b.Maps) &&
		slices.EqualFunc(a.Lookups, b.Lookups, sameLookup) &&
		slices.EqualFunc(a.Feats, b.Feats, sameFeat) &&
		sameLists(a.Sets, b.Sets)
}

// sameLists tells whether the lists of lists are equal.
func sameLists[T comparable](a, b [][]T) bool {
	return slices.EqualFunc(a, b, slices.Equal[[]T])
}

func sameInfo(a, b api.Info) bool {
	return a.Adv == b.Adv && a.Kind == b.Kind && a.Attach == b.Attach && slices.Equal(a.Carets, b.Carets)
}

func sameFeat(a, b api.Feat) bool {
	return a.Tag == b.Tag && a.Script == b.Script && slices.Equal(a.Lookups, b.Lookups)
}

func sameLookup(a, b api.Lookup) bool {
	return a.Kind == b.Kind && a.Flags == b.Flags && a.Set == b.Set && slices.EqualFunc(a.Subs, b.Subs, sameSub)
}

func sameSub(a, b api.Sub) bool {
	return slices.Equal(a.Cover, b.Cover) &&
		sameLists(a.To, b.To) &&
		slices.EqualFunc(a.Ligs, b.Ligs, sameLigs) &&
		sameLists(a.Back, b.Back) &&
		sameLists(a.In, b.In) &&
		sameLists(a.Ahead, b.Ahead) &&
		slices.Equal(a.Nests, b.Nests) &&
		slices.Equal(a.Values, b.Values) &&
		slices.Equal(a.Pairs, b.Pairs) &&
		slices.Equal(a.Curs, b.Curs) &&
		slices.Equal(a.Marks, b.Marks) &&
		slices.EqualFunc(a.Hosts, b.Hosts, sameHost)
}

func sameLigs(a, b []api.Lig) bool { return slices.EqualFunc(a, b, sameLig) }

func sameLig(a, b api.Lig) bool { return a.Glyph == b.Glyph && slices.Equal(a.Parts, b.Parts) }

func sameHost(a, b api.Host) bool { return a.Glyph == b.Glyph && sameLists(a.Spots, b.Spots) }
