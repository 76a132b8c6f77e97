package vec

import (
	"maund/api"
	"maund/wire"
)

// Dot is the Nth event of a Node, from 1 on.
type Dot struct {
	Node int
	N    uint64
}

// Right tells whether a dot may be.
func Right(d Dot) bool { return isNode(d.Node) && d.N >= 1 }

// Less tells whether a is ahead of b: by Node, then N.
func Less(a, b Dot) bool {
	if a.Node != b.Node {
		return a.Node < b.Node
	}
	return a.N < b.N
}

// Put writes a dot behind others; a Node below 0 as 0, which is no node either.
func Put(w *wire.Writer, d Dot) {
	w.Num(uint64(max(d.Node, 0)))
	w.Num(d.N)
}

// Take is the dot that stands here; a fault, and a zero dot, if it may not be.
func Take(r *wire.Reader) Dot {
	node := r.Small(api.MaxNodes)
	d := Dot{Node: node, N: r.Num()}
	r.Must(Right(d))
	if r.Err() != api.OK {
		return Dot{}
	}
	return d
}

// isNode tells whether there is such a node.
func isNode(node int) bool { return 1 <= node && node <= api.MaxNodes }
