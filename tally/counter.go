package tally

import (
	"math"

	"maund/api"
	"maund/vec"
)

// The places of what goes up, and of what goes down, in an array of both.
const (
	up   = 0
	down = 1
)

// Counter is how much each node counted up and down.
type Counter struct{ Up, Down api.Vec }

// Count lets a node count; ErrNode of no node, ErrCount if its count would be too great.
func Count(c Counter, node, n int) (Counter, api.Errno) {
	if node < 1 || node > api.MaxNodes {
		return Counter{}, api.ErrNode
	}
	counts := vectors(c)
	for way, size := range sizes(n) {
		count := &counts[way][node-1]
		if size > math.MaxUint64-*count {
			return Counter{}, api.ErrCount
		}
		*count += size
	}
	return Counter{Up: counts[up], Down: counts[down]}, api.OK
}

// Join is of each node the greater counts.
func Join(a, b Counter) Counter {
	return Counter{Up: vec.Join(a.Up, b.Up), Down: vec.Join(a.Down, b.Down)}
}

// Total is the tally of all nodes.
func Total(c Counter) Tally {
	var totals [2]uint64
	for way, v := range vectors(c) {
		totals[way] = total(v[:]...)
	}
	return Tally{Up: totals[up], Down: totals[down]}
}

// vectors is a counter's two, at their places.
func vectors(c Counter) [2]api.Vec { return [2]api.Vec{up: c.Up, down: c.Down} }

// sizes is how much a number counts up, and how much down. The least int has no opposite, so 1 is taken out of a number below 0 until its sign is off.
func sizes(n int) [2]uint64 {
	if n < 0 {
		return [2]uint64{down: uint64(-(n + 1)) + 1}
	}
	return [2]uint64{up: uint64(n)}
}
