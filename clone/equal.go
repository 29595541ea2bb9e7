package clone

import (
	"slices"

	"canopy/api"
)

// peer is a node that is held against another one.
type peer api.Node

func (p peer) sameKind(q peer) bool { return p.Kind == q.Kind }

func (p peer) sameName(q peer) bool { return p.Name == q.Name }

func (p peer) sameIds(q peer) bool { return p.Public == q.Public && p.System == q.System }

func (p peer) sameData(q peer) bool { return slices.Equal(p.Data, q.Data) }

// sameAttrs needs to look one way only: no two attributes of a node have one name, so that as many have the same ones.
func (p peer) sameAttrs(q peer) bool {
	return len(p.Attrs) == len(q.Attrs) && !slices.ContainsFunc(p.Attrs, q.lacks)
}

// lacks leaves the prefix out: it is no part of what an attribute is known by.
func (p peer) lacks(a api.Attr) bool {
	return !slices.ContainsFunc(p.Attrs, func(b api.Attr) bool {
		return a.Name.Space == b.Name.Space && a.Name.Local == b.Name.Local && a.Value == b.Value
	})
}

func (p peer) sameCount(q peer) bool { return len(p.Kids) == len(q.Kids) }

// marks are all that equal nodes have in common by themselves. They are asked of every kind: what a kind has not is zero in both.
func marks() []func(p, q peer) bool {
	return []func(p, q peer) bool{
		peer.sameKind, peer.sameName, peer.sameIds, peer.sameData, peer.sameAttrs, peer.sameCount,
	}
}

// equal tells whether two nodes have all marks in common, and their kids, one by one, as well.
func equal(f api.Forest, a, b int) bool {
	ways := marks()
	var same func(a, b int) bool
	same = func(a, b int) bool {
		p, q := peer(f.Nodes[a-1]), peer(f.Nodes[b-1])
		for _, way := range ways {
			if !way(p, q) {
				return false
			}
		}
		for i, kid := range p.Kids {
			if !same(kid, q.Kids[i]) {
				return false
			}
		}
		return true
	}
	return same(a, b)
}
