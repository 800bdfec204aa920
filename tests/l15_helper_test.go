package tests

import (
	"cmp"
	"fmt"
	"math/big"
	"slices"
	"strconv"
	"strings"
	"testing"

	"loop.example/g00918/impl"
)

// What follows states chapter 15 in another way, without the program's functions.

func edge(from, to int64, label string, cost int64) impl.Edge {
	return impl.Edge{From: from, To: to, Label: label, Cost: cost}
}

func lattice(nodes int64, edges ...impl.Edge) impl.Lattice {
	return impl.Lattice{Nodes: nodes, Edges: edges}
}

// drawn returns a lattice, valid or not; each text is From, To, Label and Cost of an edge.
func drawn(nodes int64, texts ...string) impl.Lattice {
	l := lattice(nodes)
	for _, text := range texts {
		var e impl.Edge
		if _, err := fmt.Sscan(text, &e.From, &e.To, &e.Label, &e.Cost); err != nil {
			panic(err)
		}
		l.Edges = append(l.Edges, e)
	}
	return l
}

// theLattice is the document's example.
func theLattice() impl.Lattice { return drawn(3, "0 1 c 5", "0 2 d 7", "1 2 l 4") }

// readings returns a list of readings; each word is a text, a colon, and its cost.
func readings(words ...string) []impl.Reading {
	var list []impl.Reading
	for _, word := range words {
		text, number, _ := strings.Cut(word, ":")
		cost, err := strconv.ParseInt(number, 10, 64)
		if err != nil {
			panic(err)
		}
		list = append(list, impl.Reading{Text: text, Cost: cost})
	}
	return list
}

// standsAhead reports whether an edge stands in front of another one.
func standsAhead(e, other impl.Edge) bool {
	switch {
	case e.From != other.From:
		return e.From < other.From
	case e.To != other.To:
		return e.To < other.To
	}
	return e.Label < other.Label
}

// isLatticeFor reports whether ValidLattice has to: it looks at each pair.
func isLatticeFor(l impl.Lattice) bool {
	for at, e := range l.Edges {
		if e.From < 0 || e.To <= e.From || l.Nodes <= e.To || !isLabelFor(e.Label) || e.Cost < 0 || e.Cost > 1000000 {
			return false
		}
		for _, later := range l.Edges[at+1:] {
			if !standsAhead(e, later) {
				return false
			}
		}
	}
	return 1 <= l.Nodes && l.Nodes <= 20 && len(l.Edges) <= 200
}

// walksFor returns all paths of a valid lattice, each as a list of its edges. They are found from the last node on.
func walksFor(l impl.Lattice) [][]impl.Edge {
	var walks [][]impl.Edge
	var goBack func(node int64, behind []impl.Edge)
	goBack = func(node int64, behind []impl.Edge) {
		if node == 0 {
			walks = append(walks, behind)
		}
		for _, e := range l.Edges {
			if e.To == node {
				goBack(e.From, append([]impl.Edge{e}, behind...))
			}
		}
	}
	goBack(l.Nodes-1, nil)
	return walks
}

func costOfWalk(walk []impl.Edge) int64 {
	cost := int64(0)
	for _, e := range walk {
		cost += e.Cost
	}
	return cost
}

// comesBefore reports whether a reading is in front of another one.
func comesBefore(r, other impl.Reading) bool {
	switch {
	case r.Cost != other.Cost:
		return r.Cost < other.Cost
	case len(r.Text) != len(other.Text):
		return len(r.Text) < len(other.Text)
	}
	return r.Text < other.Text
}

func inReadingOrder(r, other impl.Reading) int {
	switch {
	case comesBefore(r, other):
		return -1
	case comesBefore(other, r):
		return 1
	}
	return 0
}

// readingsFor returns all readings of a valid lattice, in their order.
func readingsFor(l impl.Lattice) []impl.Reading {
	least := map[string]int64{}
	for _, walk := range walksFor(l) {
		text := ""
		for _, e := range walk {
			text += e.Label
		}
		if cost, ok := least[text]; !ok || costOfWalk(walk) < cost {
			least[text] = costOfWalk(walk)
		}
	}
	var list []impl.Reading
	for text, cost := range least {
		list = append(list, impl.Reading{Text: text, Cost: cost})
	}
	slices.SortFunc(list, inReadingOrder)
	return list
}

// prunedFor returns what PruneLattice has to return; there is a path.
func prunedFor(l impl.Lattice, slack int64) impl.Lattice {
	walks := walksFor(l)
	best := costOfWalk(slices.MinFunc(walks, func(a, b []impl.Edge) int { return cmp.Compare(costOfWalk(a), costOfWalk(b)) }))
	kept := map[impl.Edge]bool{}
	for _, walk := range walks {
		for _, e := range walk {
			kept[e] = kept[e] || costOfWalk(walk)-best <= slack
		}
	}
	with := lattice(l.Nodes)
	for _, e := range l.Edges {
		if kept[e] {
			with.Edges = append(with.Edges, e)
		}
	}
	return with
}

// walkCount returns the number of paths of a valid lattice, however great.
func walkCount(l impl.Lattice) *big.Int {
	counts := make([]*big.Int, l.Nodes)
	for node := l.Nodes - 1; node >= 0; node-- {
		counts[node] = big.NewInt(0)
		if node == l.Nodes-1 {
			counts[node].SetInt64(1)
		}
		for _, e := range l.Edges {
			if e.From == node {
				counts[node].Add(counts[node], counts[e.To])
			}
		}
	}
	return counts[0]
}

// prefix is the beginning of texts: what it costs to read it to each node, and the least cost of a reading that begins with it.
type prefix struct {
	text  string
	costs map[int64]int64
	bound int64
}

// firstReadings returns the first readings of a valid lattice, which may have very many of them: beginnings of texts grow, the
// one with the least bound first, until no other one can lead to a reading in front of the last one that is wanted.
func firstReadings(l impl.Lattice, most int) []impl.Reading {
	rest := map[int64]int64{l.Nodes - 1: 0}
	for node := l.Nodes - 2; node >= 0; node-- {
		for _, e := range l.Edges {
			if behind, ok := rest[e.To]; ok && e.From == node {
				if known, ok := rest[node]; !ok || behind+e.Cost < known {
					rest[node] = behind + e.Cost
				}
			}
		}
	}
	var found []impl.Reading
	waiting := []prefix{{costs: map[int64]int64{0: 0}, bound: rest[0]}}
	for len(waiting) > 0 {
		at := 0
		for k, p := range waiting {
			if p.bound < waiting[at].bound {
				at = k
			}
		}
		next := waiting[at]
		waiting = slices.Delete(waiting, at, at+1)
		if len(found) >= most && found[most-1].Cost < next.bound {
			break
		}
		if cost, ok := next.costs[l.Nodes-1]; ok {
			found = append(found, impl.Reading{Text: next.text, Cost: cost})
			slices.SortFunc(found, inReadingOrder)
		}
		waiting = append(waiting, next.longer(l, rest)...)
	}
	return found[:min(most, len(found))]
}

// longer returns the beginnings of texts with one more label.
func (p prefix) longer(l impl.Lattice, rest map[int64]int64) []prefix {
	byLabel := map[string]*prefix{}
	for _, e := range l.Edges {
		before, ok := p.costs[e.From]
		behind, leadsOn := rest[e.To]
		if !ok || !leadsOn {
			continue
		}
		if byLabel[e.Label] == nil {
			byLabel[e.Label] = &prefix{text: p.text + e.Label, costs: map[int64]int64{}, bound: 1 << 60}
		}
		with := byLabel[e.Label]
		cost := before + e.Cost
		if known, ok := with.costs[e.To]; !ok || cost < known {
			with.costs[e.To] = cost
		}
		with.bound = min(with.bound, cost+behind)
	}
	var list []prefix
	for _, with := range byLabel {
		list = append(list, *with)
	}
	return list
}

// latticeFor returns the lattice that LatticeOf has to return if it has not too many edges.
func latticeFor(s impl.Store, i impl.Ink, t impl.Setting) impl.Lattice {
	count, order := int64(len(i.Strokes)), orderFor(i)
	l := lattice(count + 1)
	for _, g := range groupsFor(count) {
		part := inkFor(i, order, g)
		if int64(len(part.Strokes))*t.Points > 72 {
			continue
		}
		for _, h := range hypsFor(s, part, t) {
			l.Edges = append(l.Edges, edge(g.From, g.To, h.Label, h.Cost))
		}
	}
	slices.SortFunc(l.Edges, func(e, other impl.Edge) int {
		if standsAhead(e, other) {
			return -1
		}
		return 1
	})
	return l
}

// latticeTextFor returns the text of a lattice, valid or not.
func latticeTextFor(l impl.Lattice) string {
	text := fmt.Sprintf("lattice %d\n", l.Nodes)
	for _, e := range l.Edges {
		text += fmt.Sprintf("%d %d %s %d\n", e.From, e.To, e.Label, e.Cost)
	}
	return text
}

// withEdge returns a lattice with one more edge in its place; it may be there already.
func withEdge(l impl.Lattice, e impl.Edge) impl.Lattice {
	at := 0
	for at < len(l.Edges) && standsAhead(l.Edges[at], e) {
		at++
	}
	return lattice(l.Nodes, slices.Insert(slices.Clone(l.Edges), at, e)...)
}

// withoutEdge returns a lattice without the edge at an index.
func withoutEdge(l impl.Lattice, at int) impl.Lattice {
	return lattice(l.Nodes, slices.Delete(slices.Clone(l.Edges), at, at+1)...)
}

// chain returns a lattice whose edges lead from each node to the next one, so many for each step; they cost nothing.
func chain(steps ...int64) impl.Lattice {
	l := lattice(int64(len(steps)) + 1)
	for at, count := range steps {
		for k := range count {
			l.Edges = append(l.Edges, edge(int64(at), int64(at+1), labelBytes[k:k+1], 0))
		}
	}
	return l
}

// dense returns a lattice with all nodes and so many edges: one between each two nodes, and then a second one.
func dense(count int) impl.Lattice {
	l := lattice(impl.MaxNodes)
	for _, label := range eachOf("ab") {
		for from := range int64(impl.MaxNodes) {
			for to := from + 1; to < impl.MaxNodes && len(l.Edges) < count; to++ {
				l.Edges = append(l.Edges, edge(from, to, label, to-from))
			}
		}
	}
	slices.SortStableFunc(l.Edges, func(e, other impl.Edge) int {
		return cmp.Or(cmp.Compare(e.From, other.From), cmp.Compare(e.To, other.To))
	})
	return l
}

// randomLattice returns a valid lattice with at most so many edges; their costs are below a number.
func randomLattice(s *source, nodes, edges int64, labels string, below int64) impl.Lattice {
	l := lattice(nodes)
	for range edges {
		if nodes == 1 || len(l.Edges) == impl.MaxEdges {
			break
		}
		from, label := s.below(nodes-1), s.below(int64(len(labels)))
		e := edge(from, from+1+s.below(min(nodes-1-from, 1+s.below(nodes))), labels[label:label+1], s.below(below))
		isThere := func(other impl.Edge) bool { return !standsAhead(e, other) && !standsAhead(other, e) }
		if !slices.ContainsFunc(l.Edges, isThere) {
			l = withEdge(l, e)
		}
	}
	return l
}

// manyLattices are valid lattices of all sorts that have not too many paths to list them.
func manyLattices(s *source) []impl.Lattice {
	lattices := []impl.Lattice{
		lattice(1), lattice(2), lattice(20), {Nodes: 1, Edges: []impl.Edge{}}, theLattice(), drawn(2, "0 1 a 0"), drawn(2, "0 1 a 1000000"), drawn(2, "0 1 a 5", "0 1 b 5"), chain(45), chain(1, 1, 1), chain(3, 3, 3),
		drawn(3, "0 1 a 5"), drawn(3, "1 2 a 5"), drawn(4, "0 1 a 5", "2 3 a 5"), drawn(4, "0 2 a 5", "1 3 a 5"), drawn(4, "0 1 a 0", "0 3 b 0", "2 3 a 0"), drawn(3, "0 1 a 1", "0 1 b 1", "0 2 a 2", "1 2 a 1", "1 2 b 1"), lattice(20, edge(0, 19, "z", 1000000)),
	}
	for len(lattices) < 300 {
		nodes := row(2, 3, 4, 5, 6, 8, 12, 20)[s.below(8)]
		labels := []string{"a", "ab", "abc", "a0(", labelBytes}[s.below(5)]
		l := randomLattice(s, nodes, s.below(3*nodes+2), labels, row(1, 2, 3, 10, 1000001)[s.below(5)])
		if walkCount(l).Cmp(big.NewInt(400)) <= 0 {
			lattices = append(lattices, l)
		}
	}
	return lattices
}

// smallLattices are all lattices with three nodes whose edges have one of two labels and one of two costs.
func smallLattices() []impl.Lattice {
	lattices := []impl.Lattice{lattice(3)}
	for _, place := range []string{"0 1 a", "0 1 b", "0 2 a", "0 2 b", "1 2 a", "1 2 b"} {
		for _, l := range lattices {
			for _, cost := range []string{" 1", " 2"} {
				lattices = append(lattices, lattice(3, slices.Concat(l.Edges, drawn(3, place+cost).Edges)...))
			}
		}
	}
	return lattices
}

// wrongEdges are no edges of a lattice with 4 nodes, each for one reason, which is not its label.
func wrongEdges() map[string]impl.Edge {
	wrong := map[string]impl.Edge{
		"From -1": edge(-1, 2, "b", 5), "From -1 and To 0": edge(-1, 0, "b", 5), "both -1": edge(-1, -1, "b", 5), "from 0 to 0": edge(0, 0, "b", 5), "from 1 to 1": edge(1, 1, "b", 5), "from 3 to 3": edge(3, 3, "b", 5), "back by one": edge(2, 1, "b", 5), "back": edge(3, 0, "b", 5),
		"To 4": edge(1, 4, "b", 5), "from 3 to 4": edge(3, 4, "b", 5), "To 5": edge(1, 5, "b", 5), "from 4 to 5": edge(4, 5, "b", 5), "To 20": edge(0, 20, "b", 5), "To -1": edge(1, -1, "b", 5), "from the last node to the first one": edge(3, 0, "b", 0),
	}
	for _, n := range extremes() {
		name := impl.Decimal(n)
		wrong["From "+name], wrong["To "+name], wrong["both "+name] = edge(n, 2, "b", 5), edge(1, n, "b", 5), edge(n, n, "b", 5)
		wrong["around "+name], wrong["against "+name] = edge(n, n/2, "b", 5), edge(n/2, n, "b", 5)
	}
	for _, cost := range wrongCosts() {
		wrong["cost "+impl.Decimal(cost)] = edge(1, 2, "b", cost)
	}
	return wrong
}

// wrongLattices are invalid, each for one reason.
func wrongLattices() map[string]impl.Lattice {
	one, two, three := edge(0, 1, "a", 5), edge(1, 3, "b", 6), edge(2, 3, "a", 7)
	wrong := map[string]impl.Lattice{
		"zero": {}, "one edge too many": dense(201), "two edges too many": dense(202), "far too many edges": dense(380), "the most zero edges": lattice(20, make([]impl.Edge, 200)...), "one zero edge": lattice(4, impl.Edge{}),
		"very many equal edges": lattice(20, slices.Repeat(dense(200).Edges, 50)...), "one too many of one step": chain(45, 45, 45, 45, 21),
		"exchanged by From": drawn(4, "1 2 a 5", "0 2 a 5"), "exchanged by To": drawn(4, "0 2 a 5", "0 1 a 5"), "exchanged by Label": drawn(4, "0 1 b 5", "0 1 a 5"), "by To, From and Label in order": drawn(4, "0 3 a 5", "0 2 b 5"),
		"by From, To and Label in order": drawn(4, "1 2 a 5", "0 3 b 5"), "exchanged at the end": drawn(4, "0 1 a 5", "2 3 a 5", "1 3 a 5"), "exchanged at the beginning": drawn(4, "0 2 a 5", "0 1 a 5", "2 3 a 5"), "by Label before To": drawn(4, "0 2 a 5", "0 1 b 5"),
		"by To before From": drawn(4, "1 2 a 5", "0 3 a 5"), "by Label before From": drawn(4, "1 2 a 5", "0 2 b 5"), "by cost": drawn(4, "0 1 b 4", "0 1 a 5"), "from the end on": drawn(4, "2 3 a 5", "1 2 a 5", "0 1 a 5"), "the last one in front": drawn(4, "2 3 a 5", "0 1 a 5", "1 2 a 5"),
		"a digit behind a letter": drawn(4, "0 1 a 5", "0 1 9 5"), "a sign behind a digit": drawn(4, "0 1 0 5", "0 1 / 5"), "a digit behind the equals sign": drawn(4, "0 1 = 5", "0 1 9 5"), "To by its first digit": drawn(20, "0 10 a 5", "0 9 a 5"), "From by its first digit": drawn(20, "10 11 a 5", "9 11 a 5"),
		"an edge twice": drawn(4, "0 1 a 5", "0 1 a 5"), "an edge twice, rising": drawn(4, "0 1 a 5", "0 1 a 6"), "an edge twice, falling": drawn(4, "0 1 a 6", "0 1 a 5"), "an edge twice at the end": drawn(4, "0 1 a 5", "2 3 a 5", "2 3 a 6"),
		"an edge twice at the beginning": drawn(4, "0 1 a 5", "0 1 a 6", "2 3 a 5"), "an edge thrice": drawn(4, "0 1 a 5", "0 1 a 5", "0 1 a 5"), "an edge twice, apart": drawn(4, "0 1 a 5", "1 2 a 5", "0 1 a 5"), "edges of one node": lattice(1, one), "an edge beyond two nodes": drawn(2, "0 1 a 5", "1 2 a 5"),
	}
	most := dense(200).Edges
	twice := slices.Clone(most)
	twice[199] = twice[198]
	wrong["the last of the most twice"] = lattice(20, twice...)
	for _, nodes := range append(extremes(), 0, -1, -2, -20, 21, 22, 1<<32) {
		name := "Nodes " + impl.Decimal(nodes)
		wrong[name], wrong[name+" with an edge"], wrong[name+" with the most edges"] = lattice(nodes), lattice(nodes, one), lattice(nodes, most...)
	}
	bad := wrongEdges()
	for _, label := range wrongLabels() {
		bad[fmt.Sprintf("label %q", label)] = edge(1, 2, label, 5)
	}
	for name, e := range bad {
		wrong["only "+name], wrong["in its place "+name] = lattice(4, e), withEdge(lattice(4, one, two, three), e)
		// With 20 nodes, there may be an edge to one of the nodes behind the fourth one.
		if e.From == 1 && e.To == 2 {
			wrong["among the most "+name] = withEdge(lattice(20, most[:199]...), e)
		}
	}
	return wrong
}

// refusedLattices checks a function of a lattice with invalid ones.
func refusedLattices(t *testing.T, name string, call func(l impl.Lattice) []any, want []any) {
	t.Helper()
	for reason, l := range wrongLattices() {
		is(t, name+": "+reason, call(l), want)
	}
}
