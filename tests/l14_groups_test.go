package tests

import (
	"fmt"
	"slices"
	"strconv"
	"testing"

	"loop.example/g00918/impl"
)

func TestGroupsOf(t *testing.T) {
	for count, want := range [][]impl.Group{
		nil,
		groups(0, 1),
		groups(0, 1, 0, 2, 1, 2),
		groups(0, 1, 0, 2, 0, 3, 1, 2, 1, 3, 2, 3),
		groups(0, 1, 0, 2, 0, 3, 1, 2, 1, 3, 1, 4, 2, 3, 2, 4, 3, 4),
		groups(0, 1, 0, 2, 0, 3, 1, 2, 1, 3, 1, 4, 2, 3, 2, 4, 2, 5, 3, 4, 3, 5, 4, 5),
	} {
		is(t, fmt.Sprint(count, " strokes"), all(impl.GroupsOf(inkWith(int64(count), 2))), all(want, impl.OK))
		is(t, "by all pairs", groupsFor(int64(count)), want)
	}
	for count := range int64(impl.MaxStrokes) + 1 {
		is(t, fmt.Sprint(count, " strokes"), all(impl.GroupsOf(inkWith(count, 2))), all(groupsFor(count), impl.OK))
	}
	is(t, "the most groups", len(first(impl.GroupsOf(inkWith(impl.MaxStrokes, 1)))), 16+15+14)
	s := source(420)
	for _, i := range manyWritings(&s) {
		is(t, "any ink", all(impl.GroupsOf(i)), all(groupsFor(int64(len(i.Strokes))), impl.OK))
	}
	refusedInks(t, "GroupsOf", func(i impl.Ink) []any { return all(impl.GroupsOf(i)) }, groups())
}

func TestInkOfGroup(t *testing.T) {
	i := inkOf(letter(100, 300), letter(900, 1200), speck(200, 210), letter(400, 600), speck(1000, 1010))
	is(t, "the order", all(impl.OrderOf(i)), all(row(0, 2, 1, 4, 3), impl.OK))
	for name, c := range map[string]struct {
		g    impl.Group
		want []int
	}{
		"the first one":                  {group(0, 1), []int{0}},
		"the dot of the first one":       {group(1, 2), []int{2}},
		"the letter behind the dot":      {group(2, 3), []int{1}},
		"its dot":                        {group(3, 4), []int{4}},
		"the last one":                   {group(4, 5), []int{3}},
		"a letter and its dot":           {group(0, 2), []int{0, 2}},
		"a dot and the letter behind it": {group(1, 3), []int{1, 2}},
		"the other letter and its dot":   {group(2, 4), []int{1, 4}},
		"the last two":                   {group(3, 5), []int{3, 4}},
		"the first three":                {group(0, 3), []int{0, 1, 2}},
		"three in the middle":            {group(1, 4), []int{1, 2, 4}},
		"the last three":                 {group(2, 5), []int{1, 3, 4}},
		"more than MaxGroup":             {group(0, 4), []int{0, 1, 2, 4}},
		"more than MaxGroup at the end":  {group(1, 5), []int{1, 2, 3, 4}},
		"all":                            {group(0, 5), []int{0, 1, 2, 3, 4}},
	} {
		var want impl.Ink
		for _, at := range c.want {
			want.Strokes = append(want.Strokes, i.Strokes[at])
		}
		is(t, name, all(impl.InkOfGroup(i, c.g)), all(want, impl.OK))
	}
}

func TestInkOfGroupOfManyInks(t *testing.T) {
	s := source(421)
	apart := 0
	for _, i := range append(manyWritings(&s), smallWritings(3)...) {
		count, order := int64(len(i.Strokes)), orderFor(i)
		for from := int64(-1); from <= count+1; from++ {
			for to := int64(-1); to <= count+1; to++ {
				if from < 0 || from >= to || to > count {
					is(t, "no group", all(impl.InkOfGroup(i, group(from, to))), all(impl.Ink{}, impl.ErrRange))
					continue
				}
				want := inkFor(i, order, group(from, to))
				is(t, "any group", all(impl.InkOfGroup(i, group(from, to))), all(want, impl.OK))
				if cut, _ := impl.CutInk(i, from, to); !impl.SameInk(cut, want) {
					apart++
				}
			}
		}
	}
	is(t, "some strokes were not written one after the other", apart > 1000, true)
}

// wrongGroups are no groups of so many strokes, each for one reason.
func wrongGroups(count int64) map[string]impl.Group {
	wrong := map[string]impl.Group{
		"From -1": group(-1, count), "From -1 and To 0": group(-1, 0), "both -1": group(-1, -1), "From equal to To at the beginning": group(0, 0), "From equal to To at the end": group(count, count),
		"From equal to To in the middle": group(count/2, count/2), "From above To": group(count, 0), "From one above To": group(count, count-1), "To one too great": group(0, count+1), "To two too great": group(0, count+2), "To one too great for one stroke": group(count, count+1),
		"both too great": group(count+1, count+2), "one behind the most": group(0, impl.MaxStrokes+1), "far too great": group(0, 1<<32),
	}
	for _, n := range extremes() {
		name := impl.Decimal(n)
		wrong["From "+name], wrong["To "+name], wrong["both "+name] = group(n, count), group(0, n), group(n, n)
		wrong["around "+name], wrong["against "+name] = group(n, n/2), group(n/2, n)
	}
	return wrong
}

func TestInkOfGroupErrors(t *testing.T) {
	for count := range int64(impl.MaxStrokes) + 1 {
		for name, g := range wrongGroups(count) {
			is(t, fmt.Sprint(name, " of ", count), all(impl.InkOfGroup(inkWith(count, 2), g)), all(impl.Ink{}, impl.ErrRange))
		}
	}
	for _, g := range append(inOrder(wrongGroups(1)), group(0, 1), group(0, 2)) {
		refusedInks(t, "InkOfGroup", func(i impl.Ink) []any { return all(impl.InkOfGroup(i, g)) }, impl.Ink{})
	}
}

func TestGapAt(t *testing.T) {
	for name, c := range map[string]struct {
		i     impl.Ink
		place int64
		want  int64
	}{
		"a gap":                                  {inkOf(letter(100, 300), letter(350, 500)), 1, 50},
		"no gap":                                 {inkOf(letter(100, 300), letter(300, 500)), 1, 0},
		"a gap of 1":                             {inkOf(letter(100, 300), letter(301, 500)), 1, 1},
		"a gap of -1":                            {inkOf(letter(100, 300), letter(299, 500)), 1, -1},
		"the whole width":                        {inkOf(path(0, 0), path(4095, 0)), 1, 4095},
		"the whole width back":                   {inkOf(path(4095, 0), path(0, 0)), 1, -4095},
		"the whole width, of letters":            {inkOf(letter(0, 4095), letter(0, 4095)), 1, -4095},
		"the greatest X is not the last one":     {inkOf(path(100, 100, 500, 100, 200, 100), letter(600, 800)), 1, 100},
		"the least X is not the first one":       {inkOf(letter(100, 300), path(600, 100, 350, 100, 800, 100)), 1, 50},
		"behind the one before":                  {inkOf(letter(100, 300), letter(350, 500), letter(600, 700)), 2, 100},
		"behind one that reaches further":        {inkOf(letter(100, 650), letter(350, 500), letter(700, 900)), 2, 50},
		"the first place of three":               {inkOf(letter(100, 650), letter(350, 500), letter(700, 900)), 1, -300},
		"within one that is far back":            {inkOf(letter(0, 4000), letter(10, 20), letter(30, 40), letter(50, 60)), 3, -3950},
		"behind a dot that stands further back":  {inkOf(letter(100, 300), letter(600, 800), speck(320, 335)), 2, 265},
		"the dot itself":                         {inkOf(letter(100, 300), letter(600, 800), speck(320, 335)), 1, 20},
		"behind a letter, the dot comes earlier": {inkOf(letter(100, 300), letter(600, 800), speck(100, 110)), 1, -200},
	} {
		is(t, name, all(impl.GapAt(c.i, c.place)), all(c.want, impl.OK))
		is(t, name+", by all gaps", gapsFor(c.i)[c.place-1], c.want)
	}
}

func TestGapAtOfManyInks(t *testing.T) {
	s := source(422)
	signs := map[int64]int{}
	for _, i := range append(manyWritings(&s), smallWritings(4)...) {
		count := int64(len(i.Strokes))
		for at, want := range gapsFor(i) {
			is(t, "any place", all(impl.GapAt(i, int64(at+1))), all(want, impl.OK))
			signs[sign(want)]++
		}
		for _, place := range append(wrongPlaces(count), 0) {
			if place < 1 || place >= count {
				is(t, pair(count, place), all(impl.GapAt(i, place)), all(0, impl.ErrRange))
			}
		}
	}
	is(t, "gaps of all signs", all(signs[-1] > 100, signs[0] > 20, signs[1] > 100), all(true, true, true))
	for _, place := range append(wrongPlaces(2), 0, 1, 2) {
		refusedInks(t, "GapAt", func(i impl.Ink) []any { return all(impl.GapAt(i, place)) }, 0)
	}
}

func TestSplitByGaps(t *testing.T) {
	three := inkOf(letter(100, 300), letter(350, 500), letter(600, 700))
	for name, c := range map[string]struct {
		i    impl.Ink
		gap  int64
		want []impl.Group
	}{
		"no strokes":                       {ink(), 0, nil},
		"no strokes, the least gap":        {ink(), -4095, nil},
		"no strokes, the greatest gap":     {ink(), 4095, nil},
		"one stroke":                       {inkOf(letter(100, 300)), 0, groups(0, 1)},
		"one stroke, the least gap":        {inkOf(letter(100, 300)), -4095, groups(0, 1)},
		"one stroke, the greatest gap":     {inkOf(letter(100, 300)), 4095, groups(0, 1)},
		"both gaps are wide":               {three, 50, groups(0, 1, 1, 2, 2, 3)},
		"one of the gaps is wide":          {three, 51, groups(0, 2, 2, 3)},
		"exactly wide":                     {three, 100, groups(0, 2, 2, 3)},
		"no gap is wide":                   {three, 101, groups(0, 3)},
		"the greatest gap":                 {three, 4095, groups(0, 3)},
		"the least gap":                    {three, -4095, groups(0, 1, 1, 2, 2, 3)},
		"only the first gap is wide":       {inkOf(letter(100, 300), letter(400, 500), letter(550, 700)), 60, groups(0, 1, 1, 3)},
		"a gap of 0":                       {inkOf(letter(100, 300), letter(300, 500)), 0, groups(0, 1, 1, 2)},
		"a gap of 0, one more":             {inkOf(letter(100, 300), letter(300, 500)), 1, groups(0, 2)},
		"a gap of -1":                      {inkOf(letter(100, 300), letter(299, 500)), -1, groups(0, 1, 1, 2)},
		"a gap of -1, one more":            {inkOf(letter(100, 300), letter(299, 500)), 0, groups(0, 2)},
		"the gap of the whole width":       {inkOf(path(0, 0), path(4095, 0)), 4095, groups(0, 1, 1, 2)},
		"nearly the whole width":           {inkOf(path(0, 0), path(4094, 0)), 4095, groups(0, 2)},
		"the least gap there is":           {inkOf(path(4095, 0), path(0, 0)), -4095, groups(0, 1, 1, 2)},
		"the least gap there is, one more": {inkOf(path(4095, 0), path(0, 0)), -4094, groups(0, 2)},
		"a dot stays with its letter":      {inkOf(letter(100, 300), letter(350, 500), speck(200, 210)), 50, groups(0, 2, 2, 3)},
		"a dot without a home":             {inkOf(letter(100, 300), letter(350, 500), speck(600, 610)), 50, groups(0, 1, 1, 2, 2, 3)},
		"back to the left":                 {inkOf(letter(600, 800), letter(100, 300), letter(900, 950)), 0, groups(0, 2, 2, 3)},
	} {
		is(t, name, all(impl.SplitByGaps(c.i, c.gap)), all(c.want, impl.OK))
		is(t, name+", from the end", splitFor(len(c.i.Strokes), gapsFor(c.i), c.gap), c.want)
	}
}

func TestSplitByGapsOfManyInks(t *testing.T) {
	s := source(423)
	parts := map[int]int{}
	for _, i := range append(manyWritings(&s), smallWritings(3)...) {
		gaps := gapsFor(i)
		limits := row(-4095, -4094, -1, 0, 1, 20, 100, 4094, 4095)
		for _, gap := range gaps {
			limits = append(limits, gap, min(gap+1, 4095))
		}
		for _, limit := range limits {
			want := splitFor(len(i.Strokes), gaps, limit)
			is(t, "any gap", all(impl.SplitByGaps(i, limit)), all(want, impl.OK))
			parts[len(want)]++
		}
		for _, limit := range append(extremes(), -4096, -4097, 4096, 4097) {
			is(t, "out of range", all(impl.SplitByGaps(i, limit)), all(groups(), impl.ErrRange))
		}
	}
	is(t, "many sorts of groups", all(len(parts) > 10, parts[2] > 100, parts[5] > 50), all(true, true, true))
	for _, limit := range append(extremes(), -4096, -4095, 0, 50, 4095, 4096) {
		refusedInks(t, "SplitByGaps", func(i impl.Ink) []any { return all(impl.SplitByGaps(i, limit)) }, groups())
	}
}

func TestGroupText(t *testing.T) {
	for text, g := range map[string]impl.Group{
		"0-2": group(0, 2), "0-1": group(0, 1), "1-4": group(1, 4), "9-10": group(9, 10), "13-16": group(13, 16), "0-16": group(0, 16), "0-0": {}, "5-3": group(5, 3), "-1-2": group(-1, 2), "1--2": group(1, -2),
		"9223372036854775807--9223372036854775808": group(greatestInt, leastInt), "-9223372036854775808-9223372036854775807": group(leastInt, greatestInt),
	} {
		is(t, text, impl.GroupText(g), text)
	}
	var texts []string
	for _, g := range groupsFor(impl.MaxStrokes) {
		text := impl.GroupText(g)
		is(t, text, text, strconv.Itoa(int(g.From))+"-"+strconv.Itoa(int(g.To)))
		texts = append(texts, text)
	}
	slices.Sort(texts)
	is(t, "all different", len(slices.Compact(texts)), len(groupsFor(impl.MaxStrokes)))
}
