package tests

import (
	"fmt"
	"slices"
	"testing"

	"loop.example/g00918/impl"
)

func TestPruneLattice(t *testing.T) {
	four := drawn(4, "0 1 a 1", "0 2 b 2", "0 3 z 9", "1 2 c 1", "1 3 d 5", "2 3 e 1", "2 3 f 3")
	for name, c := range map[string]struct {
		l     impl.Lattice
		slack int64
		want  impl.Lattice
	}{
		"one node":                             {lattice(1), 0, lattice(1)},
		"one node, the greatest slack":         {lattice(1), 1000000, lattice(1)},
		"one edge":                             {drawn(2, "0 1 a 5"), 0, drawn(2, "0 1 a 5")},
		"one edge with the greatest cost":      {drawn(2, "0 1 a 1000000"), 0, drawn(2, "0 1 a 1000000")},
		"the example, without slack":           {theLattice(), 0, drawn(3, "0 2 d 7")},
		"the example, one less":                {theLattice(), 1, drawn(3, "0 2 d 7")},
		"the example, exactly":                 {theLattice(), 2, theLattice()},
		"the example, one more":                {theLattice(), 3, theLattice()},
		"the example, the greatest slack":      {theLattice(), 1000000, theLattice()},
		"two best paths that meet":             {four, 0, drawn(4, "0 1 a 1", "0 2 b 2", "1 2 c 1", "2 3 e 1")},
		"one less than the second edge":        {four, 1, drawn(4, "0 1 a 1", "0 2 b 2", "1 2 c 1", "2 3 e 1")},
		"the second edge":                      {four, 2, drawn(4, "0 1 a 1", "0 2 b 2", "1 2 c 1", "2 3 e 1", "2 3 f 3")},
		"the edge that passes by":              {four, 3, drawn(4, "0 1 a 1", "0 2 b 2", "1 2 c 1", "1 3 d 5", "2 3 e 1", "2 3 f 3")},
		"one less than the last edge":          {four, 5, drawn(4, "0 1 a 1", "0 2 b 2", "1 2 c 1", "1 3 d 5", "2 3 e 1", "2 3 f 3")},
		"all of them":                          {four, 6, four},
		"an edge of no path at the end":        {drawn(3, "0 1 a 0", "0 2 b 5"), 1000000, drawn(3, "0 2 b 5")},
		"an edge of no path at the beginning":  {drawn(3, "0 2 b 5", "1 2 a 0"), 1000000, drawn(3, "0 2 b 5")},
		"edges of no path between others":      {drawn(5, "0 1 a 0", "0 4 b 9", "1 2 c 0", "2 3 d 0"), 1000000, drawn(5, "0 4 b 9")},
		"equal costs":                          {drawn(2, "0 1 a 5", "0 1 b 5", "0 1 c 6"), 0, drawn(2, "0 1 a 5", "0 1 b 5")},
		"one text with several costs":          {drawn(4, "0 1 a 1", "0 2 a 2", "1 3 b 1", "2 3 b 3"), 2, drawn(4, "0 1 a 1", "1 3 b 1")},
		"one text with several costs, exactly": {drawn(4, "0 1 a 1", "0 2 a 2", "1 3 b 1", "2 3 b 3"), 3, drawn(4, "0 1 a 1", "0 2 a 2", "1 3 b 1", "2 3 b 3")},
		"the greatest slack is needed":         {drawn(2, "0 1 a 0", "0 1 b 1000000"), 1000000, drawn(2, "0 1 a 0", "0 1 b 1000000")},
		"the greatest slack is one less":       {drawn(3, "0 1 a 0", "0 1 b 1000000", "1 2 c 0", "1 2 d 1"), 999999, drawn(3, "0 1 a 0", "1 2 c 0", "1 2 d 1")},
		"more than the greatest slack":         {drawn(3, "0 1 a 0", "0 2 b 1", "1 2 c 1000000"), 1000000, drawn(3, "0 1 a 0", "0 2 b 1", "1 2 c 1000000")},
		"too much for the greatest slack":      {drawn(3, "0 1 a 2", "0 2 b 1", "1 2 c 1000000"), 1000000, drawn(3, "0 2 b 1")},
		"two great costs":                      {drawn(3, "0 1 a 1000000", "0 2 b 999999", "1 2 c 1000000"), 1000000, drawn(3, "0 2 b 999999")},
	} {
		is(t, name, all(impl.PruneLattice(c.l, c.slack)), all(c.want, impl.OK))
		is(t, name+", by all paths", prunedFor(c.l, c.slack), c.want)
	}
}

// TestPruneSmallLattices has all lattices of a few edges with each slack that makes a difference.
func TestPruneSmallLattices(t *testing.T) {
	for _, l := range smallLattices() {
		for slack := range int64(5) {
			want := all(impl.Lattice{}, impl.ErrNotFound)
			if len(walksFor(l)) > 0 {
				want = all(prunedFor(l, slack), impl.OK)
			}
			is(t, fmt.Sprint(latticeTextFor(l), slack), all(impl.PruneLattice(l, slack)), want)
		}
	}
}

// slacksFor are slacks by which a path is kept exactly, and one less.
func slacksFor(l impl.Lattice) []int64 {
	slacks := row(0, 1, 2, 999999, 1000000)
	list := readingsFor(l)
	for _, r := range list {
		more := r.Cost - list[0].Cost
		slacks = append(slacks, min(more, 1000000), min(max(more-1, 0), 1000000))
	}
	slices.Sort(slacks)
	return slices.Compact(slacks)
}

func TestPruneManyLattices(t *testing.T) {
	s := source(450)
	sizes := map[int]int{}
	for _, l := range manyLattices(&s) {
		list := readingsFor(l)
		for k, slack := range slacksFor(l) {
			if k > 8 && k%5 > 0 {
				continue
			}
			if len(list) == 0 {
				is(t, "no path", all(impl.PruneLattice(l, slack)), all(impl.Lattice{}, impl.ErrNotFound))
				continue
			}
			pruned, code := impl.PruneLattice(l, slack)
			is(t, fmt.Sprint(latticeTextFor(l), slack), all(pruned, code), all(prunedFor(l, slack), impl.OK))
			sizes[len(l.Edges)-len(pruned.Edges)]++
			checkPruned(t, pruned, list, slack)
		}
	}
	is(t, "many sizes", all(sizes[0] > 50, sizes[1] > 50, len(sizes) > 10), all(true, true, true))
}

// checkPruned compares the readings of a pruned lattice with those before: none within the slack is lost, and no cost changes.
func checkPruned(t *testing.T, pruned impl.Lattice, list []impl.Reading, slack int64) {
	t.Helper()
	within := 0
	for within < len(list) && list[within].Cost-list[0].Cost <= slack {
		within++
	}
	left := readingsFor(pruned)
	is(t, "those within the slack", left[:min(within, len(left))], list[:within])
	for _, r := range left[within:] {
		cost := costIn(list, r.Text)
		is(t, "the others are no better", all(cost[1], r.Cost >= cost[0].(int64)), all(impl.OK, true))
	}
	again, code := impl.PruneLattice(pruned, slack)
	is(t, "pruned twice", all(again, code), all(pruned, impl.OK))
}

// TestPruneGreatLattices prunes lattices with very many paths; an edge is on a path within the slack exactly if what is
// left without the edges beside it has such a path.
func TestPruneGreatLattices(t *testing.T) {
	s := source(451)
	for range 8 {
		l := randomLattice(&s, impl.MaxNodes, 1000, "abc", 1000)
		best, _ := impl.BestReading(l)
		for _, slack := range row(0, 1, 50, 200, 1000) {
			pruned, code := impl.PruneLattice(l, slack)
			is(t, "the nodes", all(pruned.Nodes, code), all(20, impl.OK))
			for at, e := range l.Edges {
				isBeside := func(other impl.Edge) bool { return other != e && other.From < e.To && other.To > e.From }
				through := lattice(l.Nodes, slices.DeleteFunc(slices.Clone(l.Edges), isBeside)...)
				least := firstReadings(through, 1)
				isKept := len(least) > 0 && least[0].Cost <= best.Cost+slack
				is(t, fmt.Sprint("the edge ", at, " with slack ", slack), slices.Contains(pruned.Edges, e), isKept)
			}
		}
	}
}

func TestPruneLatticeErrors(t *testing.T) {
	refused := func(code int64) []any { return all(impl.Lattice{}, code) }
	wrong := append(extremes(), -1, -2, -1000000, 1000001, 1000002, 1<<32, 1<<32+5)
	for _, l := range []impl.Lattice{lattice(1), theLattice(), dense(200), lattice(3), drawn(3, "0 1 a 5")} {
		for _, slack := range wrong {
			is(t, "slack "+impl.Decimal(slack), all(impl.PruneLattice(l, slack)), refused(impl.ErrRange))
		}
	}
	for _, slack := range row(0, 1, 999999, 1000000) {
		for name, c := range readingCases() {
			if len(c.want) == 0 {
				is(t, name, all(impl.PruneLattice(c.l, slack)), refused(impl.ErrNotFound))
			}
		}
		is(t, "all of equal cost", all(impl.PruneLattice(dense(200), slack)), all(dense(200), impl.OK))
	}
	for _, slack := range append(wrong, 0, 5, 1000000) {
		refusedLattices(t, "PruneLattice", func(l impl.Lattice) []any { return all(impl.PruneLattice(l, slack)) }, refused(impl.ErrInvalid))
	}
}
