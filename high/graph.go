package high

import (
	"chattel/life"
)

// graph is which regions are asked to outlive which.
type graph [][]bool

// newGraph: regions 0 to last, of which nothing is asked.
func newGraph(last int) graph {
	g := make(graph, last+1)
	for r := range g {
		g[r] = make([]bool, last+1)
	}
	return g
}

func (g graph) ask(p [2]int) { g[p[0]][p[1]] = true }

// holds: wherever a way goes from a region that something is known of to another one, is the first known to outlive it?
func (g graph) holds(known *life.Rel) bool {
	g.close()
	for a := range known.Len() + 1 {
		for b := range known.Len() + 1 {
			if g[a][b] && !known.Has(a, b) {
				return false
			}
		}
	}
	return true
}

// close: of each region all to which ways go from it.
func (g graph) close() {
	for mid := range g {
		for from := range g {
			if g[from][mid] {
				g.addAll(from, g[mid])
			}
		}
	}
}

// addAll: from a region ways go to all these too.
func (g graph) addAll(from int, to []bool) {
	for r, ok := range to {
		g[from][r] = g[from][r] || ok
	}
}
