package tests

import (
	"fmt"
	"slices"
	"testing"

	"loop.example/g00918/impl"
)

// bars are so many strokes that are no dots, one beside the other; each one alone has the features of a bar.
func bars(count int64) impl.Ink {
	var strokes []impl.Stroke
	for at := range count {
		strokes = append(strokes, path(250*at, 10, 250*at+200, 10))
	}
	return inkOf(strokes...)
}

// partStore returns a store with so many templates for groups of one stroke, of two, and of three, with 2 points for each stroke.
func partStore(one, two, three int64) impl.Store {
	s := store(0)
	for strokes, count := range row(one, two, three) {
		for at := range count {
			label := labelBytes[44-at : 45-at]
			s.Templates = append(s.Templates, template(label, level(2*strokes+2, feat(0, 127, 0))))
		}
	}
	return s
}

func TestLatticeOf(t *testing.T) {
	two, three := bars(2), bars(3)
	first, pair, triple := featsIn(bars(1), 2), featsIn(two, 2), featsIn(three, 2)
	letterAndDot := inkOf(path(100, 500, 100, 800), path(500, 500, 500, 800), path(100, 200))
	moved, _ := impl.InkOfGroup(letterAndDot, group(0, 2))
	for name, c := range map[string]struct {
		s    impl.Store
		i    impl.Ink
		t    impl.Setting
		want impl.Lattice
	}{
		"no strokes":                            {barStore(2, "ab", 0, 5), ink(), setting(2, 8, 20), lattice(1)},
		"no strokes, an empty store":            {store(0), ink(), setting(2, 1, 0), lattice(1)},
		"an empty store":                        {store(72), three, setting(2, 8, 20), lattice(4)},
		"one stroke":                            {labelled(0, "a", first), bars(1), setting(2, 8, 20), drawn(2, "0 1 a 0")},
		"one stroke with costs":                 {barStore(0, "ab", 7, 5), bars(1), setting(2, 8, 20), drawn(2, "0 1 a 7", "0 1 b 5")},
		"labels that are cheaper the later":     {barStore(0, "abcd", 9, 8, 7, 6), bars(1), setting(2, 8, 20), drawn(2, "0 1 a 9", "0 1 b 8", "0 1 c 7", "0 1 d 6")},
		"more labels than Most":                 {barStore(0, "abcd", 9, 8, 7, 6), bars(1), setting(2, 2, 20), drawn(2, "0 1 c 7", "0 1 d 6")},
		"one of the labels":                     {barStore(0, "cabd", 9, 5, 7, 6), bars(1), setting(2, 1, 20), drawn(2, "0 1 a 5")},
		"several templates of a label":          {barStore(0, "aab", 9, 5, 7), bars(1), setting(2, 8, 20), drawn(2, "0 1 a 5", "0 1 b 7")},
		"two strokes":                           {labelled(0, "ab", first, pair), two, setting(2, 8, 20), drawn(3, "0 1 a 0", "0 2 b 20", "1 2 a 0")},
		"two strokes without Pen":               {labelled(0, "ab", first, pair), two, setting(2, 8, 0), drawn(3, "0 1 a 0", "0 2 b 0", "1 2 a 0")},
		"only single strokes":                   {labelled(0, "a", first), three, setting(2, 8, 20), drawn(4, "0 1 a 0", "1 2 a 0", "2 3 a 0")},
		"only groups of two":                    {labelled(0, "a", pair), three, setting(2, 8, 20), drawn(4, "0 2 a 20", "1 3 a 20")},
		"only all of them":                      {labelled(0, "a", triple), three, setting(2, 8, 1000), drawn(4, "0 3 a 2000")},
		"groups of all sizes":                   {labelled(0, "cba", first, pair, triple), three, setting(2, 8, 20), drawn(4, "0 1 c 0", "0 2 b 20", "0 3 a 40", "1 2 c 0", "1 3 b 20", "2 3 c 0")},
		"no groups of four":                     {labelled(0, "a", featsIn(bars(4), 2)), bars(4), setting(2, 8, 20), lattice(5)},
		"a dot behind its letter":               {labelled(0, "i", featsIn(moved, 2)), letterAndDot, setting(2, 8, 20), drawn(4, "0 2 i 20", "1 3 i 360")},
		"the letters side by side without dots": {labelled(0, "l", featsIn(inkOf(path(500, 500, 500, 800)), 2)), letterAndDot, setting(2, 8, 20), drawn(4, "0 1 l 0", "1 2 l 319", "2 3 l 0")},
	} {
		is(t, name, latticeFor(c.s, c.i, c.t), c.want)
		is(t, name, all(impl.LatticeOf(c.s, c.i, c.t)), all(c.want, impl.OK))
	}
}

// TestLatticeOfCounts has each number of strokes with each number of labels for groups of one, two and three strokes,
// so that there are exactly as many edges as there may be, and one more, in many ways.
func TestLatticeOfCounts(t *testing.T) {
	exact, more := 0, 0
	for strokes := range int64(impl.MaxStrokes + 1) {
		i := bars(strokes)
		for _, counts := range labelCounts(strokes) {
			one, two, three := counts[0], counts[1], counts[2]
			edges := one*strokes + two*max(strokes-1, 0) + three*max(strokes-2, 0)
			l, code := impl.LatticeOf(partStore(one, two, three), i, setting(2, 8, 0))
			name := fmt.Sprint(strokes, " strokes with ", counts)
			if edges > 200 {
				is(t, name, all(l, code), all(impl.Lattice{}, impl.ErrFull))
			} else {
				is(t, name, all(len(l.Edges), l.Nodes, impl.ValidLattice(l), code), all(edges, strokes+1, true, impl.OK))
			}
			switch edges {
			case 200:
				exact++
			case 201:
				more++
			}
		}
	}
	is(t, "both limits", all(exact > 3, more > 3), all(true, true))
}

// labelCounts are numbers of labels for groups of one, two and three strokes: some for a few strokes, and all that have
// 198 to 203 edges for many.
func labelCounts(strokes int64) [][]int64 {
	lists := [][]int64{{0, 0, 0}, {1, 1, 1}, {8, 0, 0}, {0, 8, 0}, {0, 0, 8}, {8, 8, 8}}
	for one := range int64(9) {
		for two := range int64(9) {
			for three := range int64(9) {
				if edges := one*strokes + two*(strokes-1) + three*(strokes-2); edges >= 198 && edges <= 203 {
					lists = append(lists, row(one, two, three))
				}
			}
		}
	}
	return lists
}

// TestLatticeOfMost has as many labels as there are edges for each Most.
func TestLatticeOfMost(t *testing.T) {
	i := bars(impl.MaxStrokes)
	for most := int64(1); most <= impl.MaxHyps; most++ {
		s := partStore(8, 8, 8)
		want := all(impl.Lattice{}, impl.ErrFull)
		if 45*most <= 200 {
			want = all(latticeFor(s, i, setting(2, most, 0)), impl.OK)
			is(t, "so many edges", len(latticeFor(s, i, setting(2, most, 0)).Edges), 45*most)
		}
		is(t, fmt.Sprint("at most ", most), all(impl.LatticeOf(s, i, setting(2, most, 0))), want)
	}
}

// TestLatticeOfPoints has groups with up to exactly MaxSeq features; more points are not valid.
func TestLatticeOfPoints(t *testing.T) {
	i := bars(4)
	for points := int64(2); points <= impl.MaxFeats; points++ {
		s := store(0)
		for strokes := int64(1); strokes <= 3; strokes++ {
			part := bars(strokes)
			s.Templates = append(s.Templates, template(labelBytes[strokes:strokes+1], featsIn(part, points)))
		}
		want := lattice(5)
		for _, g := range groupsFor(4) {
			strokes := g.To - g.From
			want.Edges = append(want.Edges, edge(g.From, g.To, labelBytes[strokes:strokes+1], 7*(strokes-1)))
		}
		is(t, fmt.Sprint(points, " points"), all(impl.LatticeOf(s, i, setting(points, 8, 7))), all(want, impl.OK))
	}
	is(t, "the greatest group", 3*impl.MaxFeats, impl.MaxSeq)
	is(t, "one point more", all(impl.LatticeOf(store(72), i, setting(25, 8, 7))), all(impl.Lattice{}, impl.ErrInvalid))
}

// TestLatticeOfManyInks compares lattices with those that the groups, their ink and its hypotheses make.
func TestLatticeOfManyInks(t *testing.T) {
	s := source(452)
	sizes, dots, full := map[int]int{}, 0, 0
	for k, i := range append(manyWritings(&s), smallWritings(3)...) {
		if k%2 > 0 || len(i.Strokes) == 0 {
			continue
		}
		points, pen := 2+s.below(4), row(0, 1, 20, 1000)[s.below(4)]
		order := orderFor(i)
		parts := groupsFor(int64(len(order)))
		part := inkFor(i, order, parts[s.below(int64(len(parts)))])
		made, with := storeNear(&s, part, points), setting(points, 1+s.below(8), pen)
		if s.below(4) == 0 {
			// All templates take part for all groups then, each with a label of its own.
			made.Band, with.Most = impl.MaxSeq, impl.MaxHyps
			for at := range made.Templates {
				made.Templates[at].Label = labelBytes[at : at+1]
			}
		}
		want := latticeFor(made, i, with)
		if len(want.Edges) > 200 {
			full++
			is(t, "too many edges", all(impl.LatticeOf(made, i, with)), all(impl.Lattice{}, impl.ErrFull))
			continue
		}
		is(t, "any ink", all(impl.LatticeOf(made, i, with)), all(want, impl.OK))
		is(t, "valid", isLatticeFor(want), true)
		sizes[len(want.Edges)/5]++
		if !slices.IsSorted(order) {
			dots++
		}
	}
	is(t, "many sorts", all(len(sizes) > 12, dots > 20, full > 5), all(true, true, true))
}

// TestLatticeOfParts compares a lattice with what the program itself says of groups and their hypotheses.
func TestLatticeOfParts(t *testing.T) {
	s := source(453)
	for k, i := range manyWritings(&s) {
		if k%4 > 0 || len(i.Strokes) == 0 {
			continue
		}
		first, _ := impl.InkOfGroup(i, group(0, 1))
		made, with := storeNear(&s, first, 3), setting(3, 2, 20)
		l, code := impl.LatticeOf(made, i, with)
		if code == impl.ErrFull {
			continue
		}
		edges := 0
		parts, _ := impl.GroupsOf(i)
		for _, g := range parts {
			part, _ := impl.InkOfGroup(i, g)
			list, _ := impl.HypsOf(made, part, with)
			for _, h := range list {
				is(t, "there is an edge", slices.Contains(l.Edges, edge(g.From, g.To, h.Label, h.Cost)), true)
			}
			edges += len(list)
		}
		is(t, "and no other", all(len(l.Edges), impl.ValidLattice(l), code), all(edges, true, impl.OK))
	}
}

// TestLatticeOfGreatestCosts has costs far beyond those of single features.
func TestLatticeOfGreatestCosts(t *testing.T) {
	i := inkOf(path(0, 0), path(0, 0), path(4095, 4095))
	s := labelled(72, "ab", level(72, feat(255, 255, 4)), level(1, feat(255, 255, 4)))
	want := latticeFor(s, i, setting(24, 8, 1000))
	is(t, "great costs", all(impl.LatticeOf(s, i, setting(24, 8, 1000))), all(want, impl.OK))
	is(t, "valid", isLatticeFor(want), true)
}

func TestLatticeOfInvalid(t *testing.T) {
	invalid := all(impl.Lattice{}, impl.ErrInvalid)
	good, with := plainStore(), setting(2, 3, 20)
	many, most := partStore(8, 8, 8), setting(2, 8, 0)
	for _, i := range []impl.Ink{bars(2), ink(), bars(16)} {
		refusedStores(t, "a store", func(s impl.Store) []any { return all(impl.LatticeOf(s, i, with)) }, invalid)
		for name, other := range wrongSettings() {
			is(t, name, all(impl.LatticeOf(good, i, other)), invalid)
			is(t, name+", an empty store", all(impl.LatticeOf(store(0), i, other)), invalid)
			is(t, name+", a wrong store", all(impl.LatticeOf(store(-1), i, other)), invalid)
		}
	}
	for name, i := range wrongInks() {
		is(t, name, all(impl.LatticeOf(good, i, with)), invalid)
		is(t, name+", an empty store", all(impl.LatticeOf(store(0), i, with)), invalid)
		is(t, name+", a wrong store", all(impl.LatticeOf(store(73), i, with)), invalid)
		is(t, name+", a wrong setting", all(impl.LatticeOf(good, i, setting(1, 3, 20))), invalid)
		is(t, name+", too many edges", all(impl.LatticeOf(many, i, most)), invalid)
		is(t, name+", all wrong", all(impl.LatticeOf(store(-1), i, setting(0, 0, 0))), invalid)
	}
	is(t, "too many edges", all(impl.LatticeOf(many, bars(16), most)), all(impl.Lattice{}, impl.ErrFull))
	is(t, "too many edges, a wrong store", all(impl.LatticeOf(store(73, many.Templates...), bars(16), most)), invalid)
	is(t, "too many edges, a wrong setting", all(impl.LatticeOf(many, bars(16), setting(2, 8, -1))), invalid)
	is(t, "too many edges, one stroke too many", all(impl.LatticeOf(many, bars(17), most)), invalid)
}
