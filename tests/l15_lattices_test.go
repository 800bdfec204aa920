package tests

import (
	"fmt"
	"slices"
	"testing"

	"loop.example/g00918/impl"
)

func TestLimitsOfLattices(t *testing.T) {
	is(t, "limits", row(impl.MaxNodes, impl.MaxEdges, impl.MaxBest, impl.MaxWays), row(20, 200, 20, 1000000))
}

func TestValidLattice(t *testing.T) {
	s := source(440)
	for _, l := range manyLattices(&s) {
		is(t, latticeTextFor(l), impl.ValidLattice(l), true)
		is(t, "with unused capacity", impl.ValidLattice(roomy(l)), true)
	}
	for name, l := range map[string]impl.Lattice{
		"the most edges": dense(200), "one edge less": dense(199), "the most edges of one step": chain(45, 45, 45, 45, 20), "the most nodes": chain(slices.Repeat(row(1), 19)...),
		"all labels": chain(45), "labels in ascending order": drawn(2, "0 1 ( 5", "0 1 0 5", "0 1 = 5", "0 1 a 5"), "costs in any order": drawn(2, "0 1 a 1000000", "0 1 b 0", "0 1 c 999999"),
		"To as a number": drawn(20, "0 9 a 5", "0 10 a 5"), "From as a number": drawn(20, "9 11 a 5", "10 11 a 5"), "From before To": drawn(4, "0 3 a 5", "1 2 a 5"), "To before Label": drawn(4, "0 1 b 5", "0 2 a 5"),
		"one label in several places": drawn(4, "0 1 a 5", "0 2 a 5", "1 2 a 5"), "several labels in one place": drawn(4, "1 2 a 5", "1 2 b 5", "1 2 c 5"), "to the last node": drawn(20, "0 19 a 5", "18 19 a 5"),
	} {
		is(t, name, all(impl.ValidLattice(l), isLatticeFor(l)), all(true, true))
	}
	refusedLattices(t, "ValidLattice", func(l impl.Lattice) []any { return all(impl.ValidLattice(l), isLatticeFor(l)) }, all(false, false))
}

// TestValidLatticeOfEdges has all lists of two edges with numbers that are often out of range, and all lists of three of some edges.
func TestValidLatticeOfEdges(t *testing.T) {
	var edges []impl.Edge
	for from := int64(-1); from <= 3; from++ {
		for to := int64(-1); to <= 4; to++ {
			for _, label := range []string{"a", "b", "A"} {
				edges = append(edges, edge(from, to, label, 5))
			}
		}
	}
	some := drawn(4, "0 1 a 5", "0 1 b 4", "0 3 a 5", "1 2 a 5", "2 3 b 4", "0 1 a 6").Edges
	right := 0
	try := func(edges ...impl.Edge) {
		for nodes := int64(2); nodes <= 4; nodes++ {
			l := lattice(nodes, edges...)
			want := isLatticeFor(l)
			is(t, latticeTextFor(l), impl.ValidLattice(l), want)
			if want {
				right++
			}
		}
	}
	for _, e := range edges {
		for _, other := range edges {
			try(e, other)
		}
	}
	for _, e := range some {
		for _, other := range some {
			for _, third := range some {
				try(e, other, third)
			}
		}
	}
	is(t, "some are valid", right > 50, true)
}

// changesOfLattice change a lattice with two edges at least in one field each.
func changesOfLattice() map[string]func(l *impl.Lattice) {
	return map[string]func(l *impl.Lattice){
		"Nodes one more": func(l *impl.Lattice) { l.Nodes++ }, "Nodes one less": func(l *impl.Lattice) { l.Nodes-- }, "another sign of Nodes": func(l *impl.Lattice) { l.Nodes = -l.Nodes },
		"Nodes far off": func(l *impl.Lattice) { l.Nodes += 1 << 32 }, "From of the first edge": func(l *impl.Lattice) { l.Edges[0].From++ }, "To of the first edge": func(l *impl.Lattice) { l.Edges[0].To++ },
		"Label of the first edge": func(l *impl.Lattice) { l.Edges[0].Label = "z" }, "Cost of the first edge": func(l *impl.Lattice) { l.Edges[0].Cost++ }, "From of the last edge": func(l *impl.Lattice) { l.Edges[len(l.Edges)-1].From-- },
		"To of the last edge": func(l *impl.Lattice) { l.Edges[len(l.Edges)-1].To += 1 << 32 }, "Label of the last edge": func(l *impl.Lattice) { l.Edges[len(l.Edges)-1].Label += "\x00" }, "an empty label": func(l *impl.Lattice) { l.Edges[1].Label = "" },
		"Cost of the last edge": func(l *impl.Lattice) { l.Edges[len(l.Edges)-1].Cost-- }, "Cost far off": func(l *impl.Lattice) { l.Edges[1].Cost += 1 << 32 }, "a capital": func(l *impl.Lattice) { l.Edges[1].Label = "L" },
		"an edge less": func(l *impl.Lattice) { l.Edges = l.Edges[:len(l.Edges)-1] }, "the first edge missing": func(l *impl.Lattice) { l.Edges = l.Edges[1:] }, "no edges": func(l *impl.Lattice) { l.Edges = nil },
		"an edge more": func(l *impl.Lattice) { l.Edges = append(l.Edges, edge(1, 2, "z", 9)) }, "the last edge twice": func(l *impl.Lattice) { l.Edges = append(l.Edges, l.Edges[len(l.Edges)-1]) }, "a zero edge more": func(l *impl.Lattice) { l.Edges = append(l.Edges, impl.Edge{}) },
		"two edges exchanged": func(l *impl.Lattice) { l.Edges[0], l.Edges[1] = l.Edges[1], l.Edges[0] },
	}
}

func TestSameLattice(t *testing.T) {
	s := source(441)
	lattices := append(manyLattices(&s)[:60], inOrder(wrongLattices())[:80]...)
	for k, l := range lattices {
		same := roomy(l)
		is(t, "the same", all(impl.SameLattice(l, same), impl.SameLattice(same, l), impl.SameLattice(l, l)), all(true, true, true))
		for _, other := range lattices[:k] {
			want := latticeTextFor(l) == latticeTextFor(other)
			is(t, "any two", all(impl.SameLattice(l, other), impl.SameLattice(other, l)), all(want, want))
		}
		if len(l.Edges) < 2 {
			continue
		}
		for name, change := range changesOfLattice() {
			other := roomy(l)
			change(&other)
			want := latticeTextFor(l) == latticeTextFor(other)
			is(t, name, all(impl.SameLattice(l, other), impl.SameLattice(other, l)), all(want, want))
		}
	}
	for name, change := range changesOfLattice() {
		for _, l := range []impl.Lattice{theLattice(), dense(200), drawn(-5, "7 2 Q -5", "9 9 ? 77", "0 0 aa 3")} {
			other := roomy(l)
			change(&other)
			is(t, name, all(impl.SameLattice(l, other), impl.SameLattice(other, l)), all(false, false))
		}
	}
	is(t, "nil and empty", all(impl.SameLattice(lattice(3), impl.Lattice{Nodes: 3, Edges: []impl.Edge{}}), impl.SameLattice(impl.Lattice{}, impl.Lattice{Edges: []impl.Edge{}})), all(true, true))
	for _, n := range extremes() {
		is(t, "extremes", all(impl.SameLattice(lattice(n, edge(n, n, "", n)), lattice(n, edge(n, n, "", n))), impl.SameLattice(lattice(n), lattice(n/2))), all(true, n == n/2))
	}
}

func TestAddEdge(t *testing.T) {
	three := drawn(4, "0 1 c 5", "1 2 a 6", "1 3 c 7")
	for name, c := range map[string]struct {
		l    impl.Lattice
		e    impl.Edge
		want impl.Lattice
	}{
		"the first one":                  {lattice(2), edge(0, 1, "a", 5), drawn(2, "0 1 a 5")},
		"the first one of many nodes":    {lattice(20), edge(0, 19, "a", 5), drawn(20, "0 19 a 5")},
		"at the beginning by Label":      {three, edge(0, 1, "b", 9), drawn(4, "0 1 b 9", "0 1 c 5", "1 2 a 6", "1 3 c 7")},
		"behind the first one by Label":  {three, edge(0, 1, "d", 1), drawn(4, "0 1 c 5", "0 1 d 1", "1 2 a 6", "1 3 c 7")},
		"behind the first one by To":     {three, edge(0, 2, "a", 1), drawn(4, "0 1 c 5", "0 2 a 1", "1 2 a 6", "1 3 c 7")},
		"in the middle by Label":         {three, edge(1, 2, "b", 0), drawn(4, "0 1 c 5", "1 2 a 6", "1 2 b 0", "1 3 c 7")},
		"in front by Label":              {three, edge(1, 3, "b", 0), drawn(4, "0 1 c 5", "1 2 a 6", "1 3 b 0", "1 3 c 7")},
		"at the end by Label":            {three, edge(1, 3, "d", 0), drawn(4, "0 1 c 5", "1 2 a 6", "1 3 c 7", "1 3 d 0")},
		"at the end by From":             {three, edge(2, 3, "a", 0), drawn(4, "0 1 c 5", "1 2 a 6", "1 3 c 7", "2 3 a 0")},
		"no cost":                        {three, edge(2, 3, "a", 0), drawn(4, "0 1 c 5", "1 2 a 6", "1 3 c 7", "2 3 a 0")},
		"the greatest cost":              {three, edge(2, 3, "a", 1000000), drawn(4, "0 1 c 5", "1 2 a 6", "1 3 c 7", "2 3 a 1000000")},
		"a label that is elsewhere":      {three, edge(0, 1, "a", 6), drawn(4, "0 1 a 6", "0 1 c 5", "1 2 a 6", "1 3 c 7")},
		"a sign":                         {three, edge(0, 1, "+", 6), drawn(4, "0 1 + 6", "0 1 c 5", "1 2 a 6", "1 3 c 7")},
		"the example, one edge at first": {drawn(3, "0 2 d 7", "1 2 l 4"), edge(0, 1, "c", 5), theLattice()},
	} {
		is(t, name, all(impl.AddEdge(c.l, c.e)), all(c.want, impl.OK))
	}
}

// TestAddEdgeToManyLattices takes each edge of a lattice away, and adds it again.
func TestAddEdgeToManyLattices(t *testing.T) {
	s := source(442)
	for _, l := range append(manyLattices(&s), dense(200), chain(45, 45, 45, 45, 20)) {
		for at, e := range l.Edges {
			before := withoutEdge(l, at)
			is(t, "added again", all(impl.AddEdge(before, e)), all(l, impl.OK))
			for _, cost := range row(0, e.Cost, 1000000) {
				e.Cost = cost
				is(t, "there already", all(impl.AddEdge(l, e)), all(impl.Lattice{}, impl.ErrExists))
				is(t, "with another cost", all(impl.AddEdge(before, e)), all(withEdge(before, e), impl.OK))
			}
		}
	}
}

// TestAddEdgeOneByOne adds the edges of a lattice in any order.
func TestAddEdgeOneByOne(t *testing.T) {
	s := source(443)
	for _, l := range append(manyLattices(&s), dense(200), dense(150)) {
		built := lattice(l.Nodes)
		for _, at := range chosen(&s, int64(len(l.Edges)), int64(len(l.Edges))) {
			var code int64
			built, code = impl.AddEdge(built, l.Edges[at])
			is(t, "one more", code, impl.OK)
		}
		is(t, "all of them", built, l)
	}
}

func TestAddEdgeErrors(t *testing.T) {
	refused := func(code int64) []any { return all(impl.Lattice{}, code) }
	l := drawn(4, "0 1 a 5", "1 2 a 6", "2 3 a 7")
	full := dense(200)
	for name, e := range wrongEdges() {
		is(t, name, all(impl.AddEdge(l, e)), refused(impl.ErrRange))
		is(t, name+", without edges", all(impl.AddEdge(lattice(4), e)), refused(impl.ErrRange))
		e.Label = "A"
		is(t, name+" and no label", all(impl.AddEdge(l, e)), refused(impl.ErrRange))
	}
	for _, label := range wrongLabels() {
		name := fmt.Sprintf("label %q", label)
		is(t, name, all(impl.AddEdge(l, edge(1, 2, label, 5))), refused(impl.ErrSyntax))
		is(t, name+", as many edges as may be", all(impl.AddEdge(full, edge(1, 2, label, 5))), refused(impl.ErrSyntax))
		is(t, name+" and a cost that is none", all(impl.AddEdge(full, edge(1, 2, label, -1))), refused(impl.ErrRange))
	}
	for _, nodes := range row(1, 2, 3, 19, 20) {
		for from := int64(-1); from <= nodes; from++ {
			for to := int64(-1); to <= nodes; to++ {
				want := refused(impl.ErrRange)
				if 0 <= from && from < to && to < nodes {
					want = all(lattice(nodes, edge(from, to, "a", 5)), impl.OK)
				}
				is(t, fmt.Sprint(from, " to ", to, " of ", nodes), all(impl.AddEdge(lattice(nodes), edge(from, to, "a", 5))), want)
			}
		}
	}
	is(t, "there already", all(impl.AddEdge(l, edge(1, 2, "a", 6))), refused(impl.ErrExists))
	is(t, "there already with another cost", all(impl.AddEdge(l, edge(1, 2, "a", 0))), refused(impl.ErrExists))
	is(t, "there already, cost out of range", all(impl.AddEdge(l, edge(1, 2, "a", 1000001))), refused(impl.ErrRange))
	is(t, "full", all(impl.AddEdge(full, edge(1, 2, "c", 5))), refused(impl.ErrFull))
	is(t, "full, at the beginning", all(impl.AddEdge(full, edge(0, 1, "(", 5))), refused(impl.ErrFull))
	is(t, "full, at the end", all(impl.AddEdge(full, edge(18, 19, "z", 5))), refused(impl.ErrFull))
	is(t, "full, there already", all(impl.AddEdge(full, full.Edges[77])), refused(impl.ErrExists))
	is(t, "full, cost out of range", all(impl.AddEdge(full, edge(1, 2, "c", -1))), refused(impl.ErrRange))
	is(t, "full, there already, cost out of range", all(impl.AddEdge(full, edge(0, 1, "a", -1))), refused(impl.ErrRange))
	is(t, "full, behind the last node", all(impl.AddEdge(full, edge(1, 20, "c", 5))), refused(impl.ErrRange))
	is(t, "one less", all(impl.AddEdge(withoutEdge(full, 77), full.Edges[77])), all(full, impl.OK))
	for _, e := range []impl.Edge{edge(1, 2, "c", 5), {}, edge(-1, 9, "A", -1), edge(1, 2, "A", 5), edge(0, 1, "a", 5)} {
		refusedLattices(t, "AddEdge", func(l impl.Lattice) []any { return all(impl.AddEdge(l, e)) }, refused(impl.ErrInvalid))
	}
}

func TestJoinLattices(t *testing.T) {
	one, two := lattice(1), drawn(2, "0 1 a 5")
	for name, c := range map[string]struct{ a, b, want impl.Lattice }{
		"two of one node":               {one, one, one},
		"one node in front":             {one, two, two},
		"one node behind":               {two, one, two},
		"two edges":                     {two, drawn(2, "0 1 b 6"), drawn(3, "0 1 a 5", "1 2 b 6")},
		"the labels are not in order":   {drawn(2, "0 1 b 6"), two, drawn(3, "0 1 b 6", "1 2 a 5")},
		"one with itself":               {two, two, drawn(3, "0 1 a 5", "1 2 a 5")},
		"the example with itself":       {theLattice(), theLattice(), drawn(5, "0 1 c 5", "0 2 d 7", "1 2 l 4", "2 3 c 5", "2 4 d 7", "3 4 l 4")},
		"nodes without edges":           {lattice(3), two, drawn(4, "2 3 a 5")},
		"nodes without edges behind":    {two, lattice(3), drawn(4, "0 1 a 5")},
		"no edges":                      {lattice(3), lattice(4), lattice(6)},
		"from several to several nodes": {drawn(4, "0 3 a 5", "1 2 b 5", "2 3 c 7"), drawn(3, "0 1 d 9", "0 2 a 1"), drawn(6, "0 3 a 5", "1 2 b 5", "2 3 c 7", "3 4 d 9", "3 5 a 1")},
		"the most nodes":                {lattice(10), lattice(11), lattice(20)},
		"the most nodes and one":        {lattice(20), one, lattice(20)},
		"one and the most nodes":        {one, lattice(20), lattice(20)},
		"nineteen nodes and two":        {lattice(19), two, drawn(20, "18 19 a 5")},
		"two and nineteen nodes":        {two, lattice(19), drawn(20, "0 1 a 5")},
		"the most edges in front":       {dense(200), one, dense(200)},
		"the most edges behind":         {one, dense(200), dense(200)},
		"the most edges of both":        {chain(45, 45), chain(45, 45, 20), chain(45, 45, 45, 45, 20)},
	} {
		is(t, name, all(impl.JoinLattices(c.a, c.b)), all(c.want, impl.OK))
	}
}

func TestJoinLatticesOfAllSizes(t *testing.T) {
	for n := int64(1); n <= impl.MaxNodes; n++ {
		for m := int64(1); m <= impl.MaxNodes; m++ {
			want := all(impl.Lattice{}, impl.ErrFull)
			if n+m <= 21 {
				want = all(lattice(n+m-1), impl.OK)
			}
			is(t, pair(n, m), all(impl.JoinLattices(lattice(n), lattice(m))), want)
		}
	}
	for _, n := range row(1, 20, 99, 100, 101, 155, 180) {
		for _, m := range row(0, 1, 19, 20, 21, 45, 99, 100, 101, 102) {
			a, b := chain(min(n, 45), min(max(n-45, 0), 45), min(max(n-90, 0), 45), max(n-135, 0)), chain(min(m, 45), min(max(m-45, 0), 45), max(m-90, 0))
			joined, code := impl.JoinLattices(a, b)
			if n+m > 200 {
				is(t, fmt.Sprint(n, " and ", m, " edges"), all(joined, code), all(impl.Lattice{}, impl.ErrFull))
				continue
			}
			is(t, fmt.Sprint(n, " and ", m, " edges"), all(len(joined.Edges), joined.Nodes, code), all(n+m, 8, impl.OK))
		}
	}
	is(t, "too many nodes and too many edges", all(impl.JoinLattices(dense(200), dense(200))), all(impl.Lattice{}, impl.ErrFull))
	is(t, "too many nodes only", all(impl.JoinLattices(dense(0), dense(0))), all(impl.Lattice{}, impl.ErrFull))
	is(t, "too many nodes by one", all(impl.JoinLattices(lattice(20), lattice(2))), all(impl.Lattice{}, impl.ErrFull))
}

func TestJoinLatticesInvalid(t *testing.T) {
	refused := all(impl.Lattice{}, impl.ErrInvalid)
	for _, other := range []impl.Lattice{lattice(1), theLattice(), dense(200), {}} {
		refusedLattices(t, "in front", func(l impl.Lattice) []any { return all(impl.JoinLattices(l, other)) }, refused)
		refusedLattices(t, "behind", func(l impl.Lattice) []any { return all(impl.JoinLattices(other, l)) }, refused)
	}
	refusedLattices(t, "both", func(l impl.Lattice) []any { return all(impl.JoinLattices(l, l)) }, refused)
}

// TestJoinManyLattices has any two lattices, with the edges of the second one moved by hand.
func TestJoinManyLattices(t *testing.T) {
	s := source(444)
	lattices := manyLattices(&s)
	joins := 0
	for range 3000 {
		a, b := lattices[s.below(int64(len(lattices)))], lattices[s.below(int64(len(lattices)))]
		want := lattice(a.Nodes+b.Nodes-1, a.Edges...)
		for _, e := range b.Edges {
			want = withEdge(want, edge(e.From+a.Nodes-1, e.To+a.Nodes-1, e.Label, e.Cost))
		}
		if want.Nodes > 20 || len(want.Edges) > 200 {
			is(t, "too great", all(impl.JoinLattices(a, b)), all(impl.Lattice{}, impl.ErrFull))
			continue
		}
		joins++
		is(t, "joined", all(impl.JoinLattices(a, b)), all(want, impl.OK))
	}
	is(t, "many are joined", joins > 1000, true)
}
