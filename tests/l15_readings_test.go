package tests

import (
	"fmt"
	"slices"
	"strings"
	"testing"

	"loop.example/g00918/impl"
)

// readingCase is a lattice and all its readings.
type readingCase struct {
	l    impl.Lattice
	want []impl.Reading
}

func readingCases() map[string]readingCase {
	return map[string]readingCase{
		"the example":                               {theLattice(), readings("d:7", "cl:9")},
		"one node":                                  {lattice(1), readings(":0")},
		"one edge":                                  {drawn(2, "0 1 a 5"), readings("a:5")},
		"one edge without a cost":                   {drawn(2, "0 1 a 0"), readings("a:0")},
		"one edge with the greatest cost":           {drawn(2, "0 1 a 1000000"), readings("a:1000000")},
		"costs that fall":                           {drawn(2, "0 1 a 7", "0 1 b 6", "0 1 c 5"), readings("c:5", "b:6", "a:7")},
		"equal costs":                               {drawn(2, "0 1 a 5", "0 1 b 5", "0 1 c 5"), readings("a:5", "b:5", "c:5")},
		"equal costs of signs":                      {drawn(2, "0 1 ( 5", "0 1 0 5", "0 1 = 5", "0 1 a 5"), readings("(:5", "0:5", "=:5", "a:5")},
		"equal costs, different lengths":            {drawn(3, "0 1 a 3", "0 2 z 5", "1 2 a 2"), readings("z:5", "aa:5")},
		"equal costs, one less for the longer one":  {drawn(3, "0 1 a 3", "0 2 z 5", "1 2 a 1"), readings("aa:4", "z:5")},
		"three lengths":                             {drawn(4, "0 1 a 1", "0 2 b 2", "0 3 c 3", "1 2 a 1", "2 3 a 1"), readings("c:3", "ba:3", "aaa:3")},
		"equal lengths, different texts":            {drawn(3, "0 1 a 1", "0 1 b 1", "1 2 c 1", "1 2 d 1"), readings("ac:2", "ad:2", "bc:2", "bd:2")},
		"a later label costs less":                  {drawn(3, "0 1 a 1", "0 1 b 0", "1 2 c 1", "1 2 d 0"), readings("bd:0", "ad:1", "bc:1", "ac:2")},
		"the first label counts before the second":  {drawn(3, "0 1 a 2", "0 1 b 1", "1 2 c 2", "1 2 d 1"), readings("bd:2", "ad:3", "bc:3", "ac:4")},
		"one text on two paths":                     {drawn(4, "0 1 a 1", "0 2 a 2", "1 3 b 5", "2 3 b 3"), readings("ab:5")},
		"one text on two paths, the first is best":  {drawn(4, "0 1 a 1", "0 2 a 2", "1 3 b 1", "2 3 b 3"), readings("ab:2")},
		"one text on two paths with equal costs":    {drawn(4, "0 1 a 1", "0 2 a 2", "1 3 b 2", "2 3 b 1"), readings("ab:3")},
		"one text on two paths, another one beside": {drawn(4, "0 1 a 1", "0 2 a 2", "0 3 c 5", "1 3 b 5", "2 3 b 3"), readings("c:5", "ab:5")},
		"one text on four paths":                    {drawn(5, "0 1 a 4", "0 2 a 3", "0 3 a 2", "1 4 b 9", "2 4 b 9", "3 4 b 9"), readings("ab:11")},
		"one label everywhere":                      {drawn(4, "0 1 a 1", "0 2 a 1", "0 3 a 9", "1 2 a 1", "1 3 a 1", "2 3 a 1"), readings("aa:2", "aaa:3", "a:9")},
		"paths that meet":                           {drawn(4, "0 1 a 1", "0 2 b 1", "1 2 c 1", "2 3 d 1", "2 3 e 2"), readings("bd:2", "be:3", "acd:3", "ace:4")},
		"several nodes and no edges":                {lattice(2), nil},
		"the most nodes and no edges":               {lattice(20), nil},
		"no edge from the first node":               {drawn(3, "1 2 a 5"), nil},
		"no edge to the last node":                  {drawn(3, "0 1 a 5"), nil},
		"a hole in the middle":                      {drawn(4, "0 1 a 5", "2 3 a 5"), nil},
		"edges that pass by":                        {drawn(4, "0 2 a 5", "1 3 a 5"), nil},
		"a node that no path reaches":               {drawn(3, "0 2 a 5", "1 2 b 0"), readings("a:5")},
		"a node from which none leads on":           {drawn(3, "0 1 a 0", "0 2 b 5"), readings("b:5")},
		"both":                                      {drawn(4, "0 1 a 0", "0 3 b 5", "2 3 c 0"), readings("b:5")},
		"costs up to the most nodes":                {lattice(20, chainOf("abcdefghijklmnopqrs", 1000000)...), readings("abcdefghijklmnopqrs:19000000")},
	}
}

// chainOf returns edges from each node to the next one, with the bytes of a text as their labels.
func chainOf(text string, cost int64) []impl.Edge {
	var edges []impl.Edge
	for at, label := range eachOf(text) {
		edges = append(edges, edge(int64(at), int64(at+1), label, cost))
	}
	return edges
}

// checkReadings checks all functions that find readings, for a lattice with these readings; there may be more behind them.
func checkReadings(t *testing.T, name string, l impl.Lattice, want []impl.Reading) {
	t.Helper()
	for k := int64(1); k <= impl.MaxBest; k++ {
		is(t, fmt.Sprint(name, ": the first ", k), all(impl.BestReadings(l, k)), all(want[:min(k, int64(len(want)))], impl.OK))
	}
	best := all(impl.Reading{}, impl.ErrNotFound)
	if len(want) > 0 {
		best = all(want[0], impl.OK)
	}
	is(t, name+": the best one", all(impl.BestReading(l)), best)
	for _, r := range want {
		is(t, name+": the cost of "+r.Text, all(impl.TextCost(l, r.Text)), all(r.Cost, impl.OK))
	}
}

func TestReadings(t *testing.T) {
	for name, c := range readingCases() {
		checkReadings(t, name, c.l, c.want)
		is(t, name+", by all paths", readingsFor(c.l), c.want)
	}
}

// textsUpTo returns all texts of at most so many bytes, each of which is one of these.
func textsUpTo(most int, bytes string) []string {
	texts := []string{""}
	for at := 0; len(texts[at]) < most; at++ {
		for _, b := range eachOf(bytes) {
			texts = append(texts, texts[at]+b)
		}
	}
	return texts
}

// costIn returns what TextCost has to return for a text, from all readings.
func costIn(list []impl.Reading, text string) []any {
	for _, r := range list {
		if r.Text == text {
			return all(r.Cost, impl.OK)
		}
	}
	return all(0, impl.ErrNotFound)
}

// TestReadingsOfSmallLattices has all lattices of a few edges, and all texts that could be read.
func TestReadingsOfSmallLattices(t *testing.T) {
	texts := textsUpTo(3, "ab")
	for _, l := range smallLattices() {
		want := readingsFor(l)
		checkReadings(t, latticeTextFor(l), l, want)
		for _, text := range texts {
			is(t, text, all(impl.TextCost(l, text)), costIn(want, text))
		}
		is(t, "paths", all(impl.PathCount(l)), all(len(walksFor(l)), impl.OK))
	}
}

func TestReadingsOfManyLattices(t *testing.T) {
	s := source(445)
	none, several, cut, equal := 0, 0, 0, 0
	for _, l := range manyLattices(&s) {
		walks, want := walksFor(l), readingsFor(l)
		checkReadings(t, latticeTextFor(l), l, want[:min(len(want), 40)])
		is(t, "paths", all(impl.PathCount(l)), all(len(walks), impl.OK))
		is(t, "by growing texts", firstReadings(l, 20), want[:min(len(want), 20)])
		switch {
		case len(want) == 0:
			none++
		case len(want) > 20:
			cut++
		}
		if len(walks) > len(want) {
			several++
		}
		if len(want) > 1 && want[0].Cost == want[1].Cost {
			equal++
		}
	}
	is(t, "all sorts", all(none > 20, several > 20, cut > 20, equal > 20), all(true, true, true, true))
}

// TestReadingsOfGreatLattices has as many nodes and edges as there may be, with costs that are rarely equal.
func TestReadingsOfGreatLattices(t *testing.T) {
	s := source(446)
	for range 12 {
		for _, labels := range []string{"a", "ab", labelBytes} {
			l := randomLattice(&s, impl.MaxNodes, 1000, labels, 1000001)
			checkReadings(t, "a great lattice", l, firstReadings(l, impl.MaxBest))
		}
		l := dense(200)
		for at := range l.Edges {
			l.Edges[at].Cost = s.below(1000001)
		}
		checkReadings(t, "a dense lattice", l, firstReadings(l, impl.MaxBest))
	}
}

// numbersAs returns the first texts of one length in their order: numbers with these digits.
func numbersAs(length int, digits string, count int) []string {
	var texts []string
	for n := range count {
		text := ""
		for range length {
			text = digits[n%len(digits):n%len(digits)+1] + text
			n /= len(digits)
		}
		texts = append(texts, text)
	}
	return texts
}

// TestReadingsOfEqualCosts has as many paths of equal cost as nodes and edges allow.
func TestReadingsOfEqualCosts(t *testing.T) {
	var want []impl.Reading
	for _, text := range numbersAs(19, labelBytes[:10], 20) {
		want = append(want, impl.Reading{Text: text})
	}
	checkReadings(t, "ten labels for each step", chain(slices.Repeat(row(10), 19)...), want)
	var lengths []impl.Reading
	for n := 1; n <= 19; n++ {
		lengths = append(lengths, impl.Reading{Text: strings.Repeat("a", n), Cost: 19})
	}
	checkReadings(t, "one for each length", dense(190), lengths)
	free, each := dense(190), dense(190)
	for at := range free.Edges {
		free.Edges[at].Cost, each.Edges[at].Cost = 0, 1000000
	}
	var without, rising []impl.Reading
	for n, r := range lengths {
		without, rising = append(without, impl.Reading{Text: r.Text}), append(rising, impl.Reading{Text: r.Text, Cost: int64(n+1) * 1000000})
	}
	checkReadings(t, "one for each length, without costs", free, without)
	checkReadings(t, "one for each length, the more the longer", each, rising)
	// Of the 200 edges, those from the first node that have a second label lead to 11 more readings of two labels, and so on.
	checkReadings(t, "two labels from the first node", dense(200), []impl.Reading{
		{Text: "a", Cost: 19}, {Text: "aa", Cost: 19}, {Text: "ba", Cost: 19}, {Text: "aaa", Cost: 19}, {Text: "baa", Cost: 19}, {Text: "aaaa", Cost: 19}, {Text: "baaa", Cost: 19}, {Text: "aaaaa", Cost: 19}, {Text: "baaaa", Cost: 19},
		{Text: "aaaaaa", Cost: 19}, {Text: "baaaaa", Cost: 19}, {Text: "aaaaaaa", Cost: 19}, {Text: "baaaaaa", Cost: 19}, {Text: "aaaaaaaa", Cost: 19}, {Text: "baaaaaaa", Cost: 19}, {Text: "aaaaaaaaa", Cost: 19}, {Text: "baaaaaaaa", Cost: 19},
		{Text: "aaaaaaaaaa", Cost: 19}, {Text: "baaaaaaaaa", Cost: 19}, {Text: "aaaaaaaaaaa", Cost: 19},
	})
}

// TestReadingsOfOneTextWithManyPaths has a text that many paths have, of which one costs least.
func TestReadingsOfOneTextWithManyPaths(t *testing.T) {
	s := source(447)
	for range 40 {
		l := dense(190)
		for at := range l.Edges {
			l.Edges[at].Cost = 500 + s.below(500)
		}
		// The costs of n edges are found edge by edge.
		costs := map[int64]int64{0: 0}
		for n := 1; n <= 19; n++ {
			next := map[int64]int64{}
			for _, e := range l.Edges {
				if before, ok := costs[e.From]; ok {
					if known, ok := next[e.To]; !ok || before+e.Cost < known {
						next[e.To] = before + e.Cost
					}
				}
			}
			is(t, fmt.Sprint(n, " edges"), all(impl.TextCost(l, strings.Repeat("a", n))), all(next[19], impl.OK))
			costs = next
		}
	}
}

func TestReadingsErrors(t *testing.T) {
	for _, l := range []impl.Lattice{theLattice(), lattice(1), lattice(3), dense(200)} {
		for _, k := range append(extremes(), 0, -1, -20, 21, 22, 200, 1<<32, 1<<32+1) {
			is(t, impl.Decimal(k), all(impl.BestReadings(l, k)), all([]impl.Reading{}, impl.ErrRange))
		}
	}
	is(t, "no path", all(all(impl.BestReading(lattice(2))), all(impl.BestReadings(lattice(2), 20))), all(all(impl.Reading{}, impl.ErrNotFound), all([]impl.Reading{}, impl.OK)))
	for _, k := range append(extremes(), 0, 1, 20, 21) {
		refusedLattices(t, "BestReadings", func(l impl.Lattice) []any { return all(impl.BestReadings(l, k)) }, all([]impl.Reading{}, impl.ErrInvalid))
	}
	refusedLattices(t, "BestReading", func(l impl.Lattice) []any { return all(impl.BestReading(l)) }, all(impl.Reading{}, impl.ErrInvalid))
	for _, text := range []string{"", "a", "b", "ab", "aaa", "\xff", strings.Repeat("a", 1000)} {
		refusedLattices(t, "TextCost", func(l impl.Lattice) []any { return all(impl.TextCost(l, text)) }, all(0, impl.ErrInvalid))
	}
	refusedLattices(t, "PathCount", func(l impl.Lattice) []any { return all(impl.PathCount(l)) }, all(0, impl.ErrInvalid))
}

func TestTextCost(t *testing.T) {
	l := drawn(5, "0 1 a 1", "0 2 a 2", "0 2 b 9", "1 2 b 1", "1 4 c 7", "2 3 c 1", "2 4 c 3", "3 4 a 5", "3 4 d 0")
	for text, cost := range map[string]int64{"ac": 5, "bc": 12, "aca": 8, "acd": 3, "bca": 15, "bcd": 10, "abc": 5, "abca": 8, "abcd": 3} {
		is(t, text, all(impl.TextCost(l, text)), all(cost, impl.OK))
		is(t, text+", by all paths", costIn(readingsFor(l), text), all(cost, impl.OK))
	}
	for _, text := range []string{
		"", "a", "b", "c", "d", "ab", "ad", "aa", "ba", "bd", "ca", "aab", "abd", "acc", "acda", "abcda", "abcdd", "aacd", "abcc", "cba", "dca", " ac", "ac ", "a c", "AC", "aC", "ac\n", "ac\x00", "a\x00c", "äc", "aç", "a\xff", "\xffc", "ａｃ", "ać", "z", "zz", "(", "a(",
		strings.Repeat("a", 19), strings.Repeat("a", 20), strings.Repeat("ac", 100), strings.Repeat("ac", 1<<20), strings.Repeat("\xff", 1<<20), strings.Repeat("ä", 1<<20), "acd" + strings.Repeat("d", 1<<32>>10),
	} {
		is(t, "no text", all(impl.TextCost(l, text)), all(0, impl.ErrNotFound))
	}
	is(t, "the empty text of one node", all(impl.TextCost(lattice(1), "")), all(0, impl.OK))
	for nodes := int64(1); nodes <= 20; nodes++ {
		for _, text := range append(textsUpTo(2, "ab"), wrongLabels()...) {
			if nodes > 1 || text != "" {
				is(t, "without edges", all(impl.TextCost(lattice(nodes), text)), all(0, impl.ErrNotFound))
			}
		}
	}
	for _, label := range eachOf(labelBytes) {
		for _, other := range append(eachOf(labelBytes), wrongLabels()...) {
			want := all(0, impl.ErrNotFound)
			if other == label {
				want = all(7, impl.OK)
			}
			is(t, label+" and "+other, all(impl.TextCost(drawn(2, "0 1 "+label+" 7"), other)), want)
		}
	}
}

// TestTextCostOfManyLattices has readings, their beginnings and ends, and texts with one label changed.
func TestTextCostOfManyLattices(t *testing.T) {
	s := source(448)
	found := 0
	for _, l := range manyLattices(&s) {
		list := readingsFor(l)
		for k, r := range list {
			if k%7 > 1 {
				continue
			}
			others := []string{r.Text + "a", "a" + r.Text, r.Text + r.Text, r.Text + "\xff", "", strings.ToUpper(r.Text)}
			for at := range r.Text {
				others = append(others, r.Text[:at], r.Text[at:], r.Text[:at]+"a"+r.Text[at+1:], r.Text[:at]+"b"+r.Text[at+1:], r.Text[:at]+"ä"+r.Text[at+1:])
			}
			for _, text := range others {
				want := costIn(list, text)
				is(t, text, all(impl.TextCost(l, text)), want)
				if want[1] == impl.OK && text != r.Text {
					found++
				}
			}
		}
	}
	is(t, "some other texts can be read", found > 1000, true)
}

func TestPathCount(t *testing.T) {
	for name, c := range map[string]struct {
		l    impl.Lattice
		want int64
	}{
		"the example":                      {theLattice(), 2},
		"one node":                         {lattice(1), 1},
		"no edges":                         {lattice(2), 0},
		"the most nodes, no edges":         {lattice(20), 0},
		"one edge":                         {drawn(2, "0 1 a 5"), 1},
		"two labels":                       {drawn(2, "0 1 a 5", "0 1 b 5"), 2},
		"no path":                          {drawn(4, "0 1 a 5", "2 3 a 5"), 0},
		"one text on several paths":        {drawn(4, "0 1 a 5", "0 2 a 5", "1 3 b 5", "2 3 b 5"), 2},
		"one text with equal costs":        {drawn(5, "0 1 a 5", "0 2 a 5", "0 3 a 5", "1 4 b 5", "2 4 b 5", "3 4 b 5"), 3},
		"all labels":                       {chain(45), 45},
		"two steps":                        {chain(45, 45), 2025},
		"as many as are counted":           {chain(10, 10, 10, 10, 10, 10), 1000000},
		"as many, in other steps":          {chain(40, 25, 40, 25), 1000000},
		"different steps":                  {lattice(4, slices.Concat(chain(37, 27).Edges, drawn(4, "2 3 a 0", "2 3 b 0", "2 3 c 0").Edges)...), 2997},
		"between each two nodes":           {dense(190), 262144},
		"more edges from the first node":   {dense(200), 262144 + 262144 - 256},
		"many paths to a node of no use":   {withEdge(lattice(8, chain(10, 10, 10, 10, 10, 20).Edges...), edge(0, 7, "a", 0)), 1},
		"all of them to a node of no use":  {withEdge(lattice(20, chain(slices.Repeat(row(11), 18)...).Edges...), edge(0, 19, "a", 0)), 1},
		"many paths from a node of no use": {lattice(20, slices.Concat(drawn(20, "0 19 a 0").Edges, chain(slices.Repeat(row(10), 19)...).Edges[10:])...), 1},
	} {
		is(t, name, all(impl.PathCount(c.l)), all(c.want, impl.OK))
		is(t, name+", by all sums", walkCount(c.l).Int64(), c.want)
	}
	for name, l := range map[string]impl.Lattice{
		"one more than are counted":      withEdge(chain(10, 10, 10, 10, 10, 10), edge(0, 6, "a", 0)),
		"one more, at the end":           withEdge(chain(40, 25, 40, 25), edge(0, 4, "z", 5)),
		"two more":                       withEdge(withEdge(chain(10, 10, 10, 10, 10, 10), edge(0, 6, "a", 0)), edge(0, 6, "b", 0)),
		"twice as many":                  chain(10, 10, 10, 10, 10, 20),
		"ten times as many":              chain(10, 10, 10, 10, 10, 10, 10),
		"many, and one edge behind them": chain(10, 10, 10, 10, 10, 20, 1, 1, 1, 1),
		"many behind one edge":           chain(1, 1, 1, 10, 10, 10, 10, 10, 20),
		"2 to the power of 63":           chain(slices.Concat(slices.Repeat(row(16), 6), slices.Repeat(row(8), 13))...),
		"2 to the power of 62":           chain(slices.Concat(slices.Repeat(row(16), 6), slices.Repeat(row(8), 12), row(4))...),
		"10 to the power of 19":          chain(slices.Repeat(row(10), 19)...),
		"more than 10 to the power 19":   chain(slices.Concat(slices.Repeat(row(10), 9), slices.Repeat(row(11), 10))...),
	} {
		is(t, name, all(impl.PathCount(l)), all(0, impl.ErrFull))
		is(t, name+", by all sums", walkCount(l).IsInt64() && walkCount(l).Int64() <= 1000000, false)
	}
}

// TestPathCountOfManyLattices has numbers of paths near the limit, and others far beyond it.
func TestPathCountOfManyLattices(t *testing.T) {
	s := source(449)
	counted, full := 0, 0
	for range 400 {
		l := randomLattice(&s, 4+s.below(17), 20+s.below(300), labelBytes[:1+s.below(20)], 5)
		count := walkCount(l)
		want := all(0, impl.ErrFull)
		if count.IsInt64() && count.Int64() <= 1000000 {
			want = all(count.Int64(), impl.OK)
			counted++
		} else {
			full++
		}
		is(t, count.String(), all(impl.PathCount(l)), want)
	}
	is(t, "both", all(counted > 50, full > 50), all(true, true))
	for _, more := range row(2, 9, 10, 11, 44) {
		for _, extra := range row(0, 1, 2) {
			l := chain(10, 10, 10, 10, 10, more)
			for k := range extra {
				l = withEdge(l, edge(0, 6, labelBytes[k:k+1], 0))
			}
			want := all(more*100000+extra, impl.OK)
			if more*100000+extra > 1000000 {
				want = all(0, impl.ErrFull)
			}
			is(t, "near the limit", all(impl.PathCount(l)), want)
		}
	}
}
