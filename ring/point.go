package ring

import (
	"cmp"
	"slices"
	"sort"

	"maund/sha"
)

// point is one of a node's points.
type point struct {
	at   uint64
	node int
}

// pointsOf is all points of a membership that may be, in order.
func pointsOf(c Config) []point {
	points := make([]point, 0, c.Nodes*c.Virtual)
	for node := 1; node <= c.Nodes; node++ {
		for i := range c.Virtual {
			points = append(points, point{at: pointAt(node, i), node: node})
		}
	}
	inOrder(points)
	return points
}

// pointAt is the ith point of a node, i from 0 on.
func pointAt(node, i int) uint64 {
	return sha.Point([]byte{'n', '0' + byte(node), 'a' + byte(i)})
}

// inOrder sorts points: rising, and of equal ones the lesser node's first.
func inOrder(points []point) {
	slices.SortFunc(points, func(a, b point) int {
		return cmp.Or(cmp.Compare(a.at, b.at), cmp.Compare(a.node, b.node))
	})
}

// nodesFrom is the nodes of points that are in order, each as it comes first, from the first point that is not below base on, and round from the least one; as many as most.
func nodesFrom(points []point, base uint64, most int) []int {
	first := sort.Search(len(points), func(i int) bool { return points[i].at >= base })
	nodes := make([]int, 0, most)
	for i := range points {
		if len(nodes) == most {
			break
		}
		node := points[(first+i)%len(points)].node
		if !slices.Contains(nodes, node) {
			nodes = append(nodes, node)
		}
	}
	return nodes
}
