package buffer

import "typecase/api"

// newGlyph returns a new glyph.
func newGlyph(id, cluster int) api.Glyph {
	return api.Glyph{ID: id, Cluster: cluster, To: api.None, Hang: api.None}
}

// placed returns new glyphs of the ids that stand in place of some of which first is the first one.
func placed(ids []int, cluster int, first api.Glyph) []api.Glyph {
	l := make([]api.Glyph, len(ids))
	for i, id := range ids {
		l[i] = newGlyph(id, cluster)
		l[i].Mask, l[i].Lig, l[i].Comp = first.Mask, first.Lig, first.Comp
	}
	return l
}

// least returns the minimum of the Clusters of l, which isn't empty.
func least(l []api.Glyph) int {
	cluster := l[0].Cluster
	for _, g := range l {
		cluster = min(cluster, g.Cluster)
	}
	return cluster
}

// setCluster writes to l: all of its glyphs get the Cluster.
func setCluster(l []api.Glyph, cluster int) {
	for i := range l {
		l[i].Cluster = cluster
	}
}

// sharing returns the range of the glyphs that share a cluster with glyph i.
func sharing(l []api.Glyph, i int) api.Cut {
	shared := api.Cut{From: i, To: i + 1}
	for shared.From > 0 && l[shared.From-1].Cluster == l[i].Cluster {
		shared.From--
	}
	for shared.To < len(l) && l[shared.To].Cluster == l[i].Cluster {
		shared.To++
	}
	return shared
}

// mirrored returns the index that glyph i of n has when they are turned; what is no index stays.
func mirrored(i, n int) int {
	if i < 0 || i >= n {
		return i
	}
	return n - 1 - i
}

// isLink reports whether i is None or the index of one of n glyphs.
func isLink(i, n int) bool { return i == api.None || i >= 0 && i < n }
