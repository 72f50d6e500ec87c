package font

import "typecase/api"

// Decode returns the font whose encoding is b, or the first error.
func Decode(b []byte) (api.Font, api.Errno) {
	r := &reader{rest: b}
	r.magic()
	f := readFont(r)
	r.end()
	if r.err == api.OK {
		r.err = Check(f)
	}
	if r.err != api.OK {
		return api.Font{}, r.err
	}
	return f, api.OK
}

// The fields of a literal are read in the order in which they stand in it.

func readFont(r *reader) api.Font {
	return api.Font{
		Em:      r.number(),
		Glyphs:  readList(r, readInfo),
		Maps:    readList(r, readMap),
		Lookups: readList(r, readLookup),
		Feats:   readList(r, readFeat),
		Sets:    readList(r, readGlyphs),
	}
}

func readGlyphs(r *reader) []int { return readList(r, (*reader).number) }

func readInfo(r *reader) api.Info {
	return api.Info{Adv: r.number(), Kind: r.number(), Attach: r.number(), Carets: readList(r, (*reader).number)}
}

func readMap(r *reader) api.Map {
	return api.Map{Code: rune(r.number()), Glyph: r.number()}
}

func readFeat(r *reader) api.Feat {
	return api.Feat{Tag: r.tag(), Script: r.number(), Lookups: readList(r, (*reader).number)}
}

func readLookup(r *reader) api.Lookup {
	return api.Lookup{Kind: r.number(), Flags: r.number(), Set: r.number(), Subs: readList(r, readSub)}
}

func readSub(r *reader) api.Sub {
	return api.Sub{
		Cover:  readGlyphs(r),
		To:     readList(r, readGlyphs),
		Ligs:   readList(r, readLigs),
		Back:   readList(r, readGlyphs),
		In:     readList(r, readGlyphs),
		Ahead:  readList(r, readGlyphs),
		Nests:  readList(r, readNest),
		Values: readList(r, readValue),
		Pairs:  readList(r, readPair),
		Curs:   readList(r, readCurs),
		Marks:  readList(r, readMark),
		Hosts:  readList(r, readHost),
	}
}

func readLigs(r *reader) []api.Lig { return readList(r, readLig) }

func readLig(r *reader) api.Lig { return api.Lig{Parts: readGlyphs(r), Glyph: r.number()} }

func readNest(r *reader) api.Nest { return api.Nest{At: r.number(), Lookup: r.number()} }

func readValue(r *reader) api.Value {
	return api.Value{Adv: r.number(), DX: r.number(), DY: r.number()}
}

func readPair(r *reader) api.Pair {
	return api.Pair{First: r.number(), Second: r.number(), A: readValue(r), B: readValue(r)}
}

func readCurs(r *reader) api.Curs {
	return api.Curs{Glyph: r.number(), HasEntry: r.yes(), HasExit: r.yes(), Entry: readAnchor(r), Exit: readAnchor(r)}
}

func readMark(r *reader) api.MarkAt {
	return api.MarkAt{Glyph: r.number(), Class: r.number(), At: readAnchor(r)}
}

func readHost(r *reader) api.Host {
	return api.Host{Glyph: r.number(), Spots: readList(r, readSpots)}
}

func readSpots(r *reader) []api.Spot { return readList(r, readSpot) }

func readSpot(r *reader) api.Spot { return api.Spot{Has: r.yes(), At: readAnchor(r)} }

func readAnchor(r *reader) api.Anchor { return api.Anchor{X: r.number(), Y: r.number()} }
