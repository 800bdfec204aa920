package tests

import (
	"fmt"
	"slices"
	"testing"

	"loop.example/g00918/impl"
)

func TestLimitsOfHypotheses(t *testing.T) {
	is(t, "limits", row(impl.MaxHyps, impl.MaxPen, impl.MaxCost), row(8, 1000, 1000000))
}

func TestExampleOfHypotheses(t *testing.T) {
	list, ok := impl.ReadHyps("a:12 b:40")
	is(t, "read", all(list, ok), all(hyps("ab", 12, 40), true))
	is(t, "hypotheses", impl.ValidHyps(list), true)
	is(t, "the margin", all(impl.MarginOf(list)), all(28, impl.OK))
	is(t, "the text", impl.HypsText(list), "a:12 b:40")
}

func TestValidSetting(t *testing.T) {
	for points := int64(-1); points <= 26; points++ {
		is(t, "Points "+impl.Decimal(points), impl.ValidSetting(setting(points, 3, 20)), points >= 2 && points <= 24)
	}
	for most := int64(-1); most <= 10; most++ {
		is(t, "Most "+impl.Decimal(most), impl.ValidSetting(setting(4, most, 20)), most >= 1 && most <= 8)
	}
	for pen := int64(-2); pen <= 1002; pen++ {
		is(t, "Pen "+impl.Decimal(pen), impl.ValidSetting(setting(4, 3, pen)), pen >= 0 && pen <= 1000)
	}
	for _, right := range []impl.Setting{setting(2, 1, 0), setting(24, 8, 1000), setting(2, 8, 0), setting(24, 1, 0), setting(2, 1, 1000), setting(4, 3, 20)} {
		is(t, "at the limits", impl.ValidSetting(right), true)
	}
	for name, wrong := range wrongSettings() {
		is(t, name, impl.ValidSetting(wrong), false)
	}
	// The ranges are different, and none of the numbers may take the place of another one.
	for _, wrong := range []impl.Setting{setting(1, 2, 2), setting(9, 9, 9), setting(25, 8, 25), setting(1000, 8, 24), setting(24, 24, 8), setting(8, 1000, 24), setting(8, 8, 1001)} {
		is(t, "exchanged", impl.ValidSetting(wrong), false)
	}
}

func TestValidHyps(t *testing.T) {
	s := source(370)
	for _, list := range manyHyps(&s) {
		is(t, fmt.Sprint(list), impl.ValidHyps(list), true)
	}
	for name, list := range wrongHyps() {
		is(t, name, impl.ValidHyps(list), false)
	}
	for count := range 46 {
		is(t, fmt.Sprint(count, " of equal costs"), impl.ValidHyps(hyps(labelBytes, slices.Repeat(row(5), count)...)), count <= 8)
		rising := hyps(labelBytes, slices.Repeat(row(5), count)...)
		for at := range rising {
			rising[at].Cost = int64(at) * 3
		}
		is(t, fmt.Sprint(count, " of different costs"), impl.ValidHyps(rising), count <= 8)
	}
	for _, label := range append(eachOf(labelBytes), wrongLabels()...) {
		is(t, fmt.Sprintf("%q", label), impl.ValidHyps([]impl.Hyp{hyp(label, 5)}), isLabelFor(label))
	}
	for _, middle := range row(0, 1000000) {
		for cost := middle - 3; cost <= middle+3; cost++ {
			is(t, impl.Decimal(cost), impl.ValidHyps(hyps("a", cost)), cost >= 0 && cost <= 1000000)
		}
	}
}

// TestValidHypsOfSmallLists has all lists of up to 4 hypotheses with three labels and two costs.
func TestValidHypsOfSmallLists(t *testing.T) {
	lists := allHyps(4, hyps("(ab(ab", 5, 5, 5, 6, 6, 6)...)
	right := 0
	for _, list := range lists {
		is(t, fmt.Sprint(list), impl.ValidHyps(list), areHyps(list))
		if areHyps(list) {
			right++
		}
	}
	// One cost for each label of a set of labels leaves one order of them.
	is(t, "lists of both sorts", all(len(lists), right), all(1+6+36+216+1296, 1+3*2+3*4+8))
}

// TestValidHypsInOtherOrders has the same hypotheses in all orders, of which one is right.
func TestValidHypsInOtherOrders(t *testing.T) {
	s := source(371)
	for range 60 {
		list := randomHyps(&s, labelBytes, 1+s.below(4)*s.below(3))
		for range 20 {
			other := slices.Clone(list)
			for at := range other {
				k := s.below(int64(at + 1))
				other[at], other[k] = other[k], other[at]
			}
			is(t, fmt.Sprint(other), impl.ValidHyps(other), slices.Equal(list, other))
		}
	}
}

func TestMergeHyps(t *testing.T) {
	for name, c := range map[string]struct {
		a, b []impl.Hyp
		most int64
		want []impl.Hyp
	}{
		"both empty":                        {nil, nil, 8, nil},
		"the first one empty":               {nil, hyps("ab", 5, 6), 8, hyps("ab", 5, 6)},
		"the second one empty":              {hyps("ab", 5, 6), nil, 8, hyps("ab", 5, 6)},
		"one behind the other":              {hyps("ab", 5, 6), hyps("cd", 7, 8), 8, hyps("abcd", 5, 6, 7, 8)},
		"in turn":                           {hyps("ac", 5, 7), hyps("bd", 6, 8), 8, hyps("abcd", 5, 6, 7, 8)},
		"the first one is less":             {hyps("a", 5), hyps("a", 6), 8, hyps("a", 5)},
		"the second one is less":            {hyps("a", 6), hyps("a", 5), 8, hyps("a", 5)},
		"equal ones":                        {hyps("a", 5), hyps("a", 5), 8, hyps("a", 5)},
		"less in turn":                      {hyps("ab", 5, 8), hyps("ba", 6, 7), 8, hyps("ab", 5, 6)},
		"less in another order":             {hyps("ab", 5, 9), hyps("ba", 2, 9), 8, hyps("ba", 2, 5)},
		"less by much":                      {hyps("ab", 0, 1000000), hyps("ba", 0, 1000000), 8, hyps("ab", 0, 0)},
		"less, with one between":            {hyps("abc", 5, 6, 9), hyps("c", 5), 8, hyps("acb", 5, 5, 6)},
		"equal costs":                       {hyps("b", 5), hyps("a", 5), 8, hyps("ab", 5, 5)},
		"equal costs in turn":               {hyps("bd", 5, 5), hyps("ac", 5, 5), 8, hyps("abcd", 5, 5, 5, 5)},
		"equal costs of signs":              {hyps("a=", 5, 6), hyps("9(", 5, 6), 8, hyps("9a(=", 5, 5, 6, 6)},
		"equal costs of 0":                  {hyps("b", 0), hyps("a", 0), 8, hyps("ab", 0, 0)},
		"the first one of equal costs":      {hyps("b", 5), hyps("a", 5), 1, hyps("a", 5)},
		"more labels than most":             {hyps("ac", 5, 7), hyps("bd", 6, 8), 3, hyps("abc", 5, 6, 7)},
		"as many labels as most":            {hyps("ac", 5, 7), hyps("bd", 6, 8), 4, hyps("abcd", 5, 6, 7, 8)},
		"fewer labels than most":            {hyps("ac", 5, 7), hyps("bd", 6, 8), 5, hyps("abcd", 5, 6, 7, 8)},
		"only the first list":               {hyps("ab", 5, 6), hyps("cd", 7, 8), 2, hyps("ab", 5, 6)},
		"only the second list":              {hyps("cd", 7, 8), hyps("ab", 5, 6), 2, hyps("ab", 5, 6)},
		"one of a label in both":            {hyps("ab", 5, 6), hyps("bc", 4, 9), 1, hyps("b", 4)},
		"two of three labels, one in both":  {hyps("ab", 5, 6), hyps("bc", 4, 9), 2, hyps("ba", 4, 5)},
		"one that is dropped and less":      {hyps("abc", 1, 2, 9), hyps("c", 3), 2, hyps("ab", 1, 2)},
		"the most of both":                  {hyps("abcdefgh", 1, 2, 3, 4, 5, 6, 7, 8), hyps("ijklmnop", 1, 2, 3, 4, 5, 6, 7, 8), 8, hyps("aibjckdl", 1, 1, 2, 2, 3, 3, 4, 4)},
		"the most of both, the first less":  {hyps("abcdefgh", 1, 2, 3, 4, 5, 6, 7, 8), hyps("ijklmnop", 9, 9, 9, 9, 9, 9, 9, 9), 8, hyps("abcdefgh", 1, 2, 3, 4, 5, 6, 7, 8)},
		"the most of both, the second less": {hyps("abcdefgh", 9, 9, 9, 9, 9, 9, 9, 9), hyps("hgfedcba", 1, 2, 3, 4, 5, 6, 7, 8), 8, hyps("hgfedcba", 1, 2, 3, 4, 5, 6, 7, 8)},
	} {
		is(t, name, all(impl.MergeHyps(c.a, c.b, c.most)), all(c.want, impl.OK))
		is(t, name+", exchanged", all(impl.MergeHyps(c.b, c.a, c.most)), all(c.want, impl.OK))
	}
}

func TestMergeManyHyps(t *testing.T) {
	s := source(372)
	lists := manyHyps(&s)
	shortened := 0
	for range 3000 {
		a, b := lists[s.below(int64(len(lists)))], lists[s.below(int64(len(lists)))]
		for most := int64(1); most <= impl.MaxHyps; most++ {
			want := all(chosenFor(slices.Concat(a, b), most), impl.OK)
			is(t, "merged", all(impl.MergeHyps(a, b, most)), want)
			is(t, "exchanged", all(impl.MergeHyps(b, a, most)), want)
		}
		is(t, "the same list twice", all(impl.MergeHyps(a, a, impl.MaxHyps)), all(a, impl.OK))
		is(t, "with nothing", all(impl.MergeHyps(a, nil, impl.MaxHyps)), all(a, impl.OK))
		if len(chosenFor(slices.Concat(a, b), 99)) > impl.MaxHyps {
			shortened++
		}
	}
	is(t, "some are shortened", shortened > 100, true)
}

// TestMergeSmallHyps has all pairs of lists of up to 3 hypotheses with three labels and two costs, the invalid ones included.
func TestMergeSmallHyps(t *testing.T) {
	lists := allHyps(3, hyps("abcabc", 5, 5, 5, 6, 6, 6)...)
	for _, a := range lists {
		for _, b := range lists[:43] {
			want := all([]impl.Hyp{}, impl.ErrInvalid)
			if areHyps(a) && areHyps(b) {
				want = all(chosenFor(slices.Concat(b, a), 2), impl.OK)
			}
			is(t, fmt.Sprint(a, b), all(impl.MergeHyps(a, b, 2)), want)
			is(t, fmt.Sprint(b, a), all(impl.MergeHyps(b, a, 2)), want)
		}
	}
}

func TestMergeHypsErrors(t *testing.T) {
	right := [][]impl.Hyp{nil, {}, hyps("a", 5), hyps("ab", 5, 6), mostHyps()}
	for _, most := range wrongMosts() {
		for _, a := range right {
			for _, b := range right {
				is(t, "most "+impl.Decimal(most), all(impl.MergeHyps(a, b, most)), all([]impl.Hyp{}, impl.ErrRange))
			}
		}
	}
	for _, most := range append(wrongMosts(), 1, 3, impl.MaxHyps) {
		for _, a := range right {
			refusedHyps(t, "the first list", func(list []impl.Hyp) []any { return all(impl.MergeHyps(list, a, most)) }, all([]impl.Hyp{}, impl.ErrInvalid))
			refusedHyps(t, "the second list", func(list []impl.Hyp) []any { return all(impl.MergeHyps(a, list, most)) }, all([]impl.Hyp{}, impl.ErrInvalid))
		}
		refusedHyps(t, "both lists", func(list []impl.Hyp) []any { return all(impl.MergeHyps(list, list, most)) }, all([]impl.Hyp{}, impl.ErrInvalid))
	}
}

func TestBestHyp(t *testing.T) {
	s := source(373)
	for _, list := range manyHyps(&s) {
		if len(list) == 0 {
			is(t, "none", all(impl.BestHyp(list)), all(impl.Hyp{}, impl.ErrNotFound))
			continue
		}
		is(t, fmt.Sprint(list), all(impl.BestHyp(list)), all(list[0], impl.OK))
	}
	is(t, "one", all(impl.BestHyp(hyps("b", 7))), all(hyp("b", 7), impl.OK))
	is(t, "two", all(impl.BestHyp(hyps("ba", 7, 8))), all(hyp("b", 7), impl.OK))
	is(t, "equal costs", all(impl.BestHyp(hyps("ab", 7, 7))), all(hyp("a", 7), impl.OK))
	refusedHyps(t, "BestHyp", func(list []impl.Hyp) []any { return all(impl.BestHyp(list)) }, all(impl.Hyp{}, impl.ErrInvalid))
}

func TestCostOf(t *testing.T) {
	s := source(374)
	for _, list := range manyHyps(&s) {
		for _, label := range append(eachOf(labelBytes), wrongLabels()...) {
			want := all(0, impl.ErrNotFound)
			for _, h := range list {
				if h.Label == label {
					want = all(h.Cost, impl.OK)
				}
			}
			is(t, fmt.Sprintf("%q of %v", label, list), all(impl.CostOf(list, label)), want)
		}
	}
	for _, label := range []string{"a", "b", "", "ab", "ä", "\xff"} {
		refusedHyps(t, "CostOf", func(list []impl.Hyp) []any { return all(impl.CostOf(list, label)) }, all(0, impl.ErrInvalid))
	}
}

func TestMarginOf(t *testing.T) {
	for name, c := range map[string]struct {
		list []impl.Hyp
		want []any
	}{
		"nil":                    {nil, all(0, impl.ErrState)},
		"empty":                  {[]impl.Hyp{}, all(0, impl.ErrState)},
		"one":                    {hyps("a", 5), all(0, impl.ErrState)},
		"one of 0":               {hyps("a", 0), all(0, impl.ErrState)},
		"two":                    {hyps("ab", 12, 40), all(28, impl.OK)},
		"equal costs":            {hyps("ab", 12, 12), all(0, impl.OK)},
		"equal costs of 0":       {hyps("ab", 0, 0), all(0, impl.OK)},
		"one more":               {hyps("ba", 12, 13), all(1, impl.OK)},
		"the greatest":           {hyps("ab", 0, 1000000), all(1000000, impl.OK)},
		"three":                  {hyps("abc", 12, 40, 1000), all(28, impl.OK)},
		"three, two of them eq.": {hyps("abc", 12, 12, 40), all(0, impl.OK)},
		"the most":               {mostHyps(), all(1, impl.OK)},
	} {
		is(t, name, all(impl.MarginOf(c.list)), c.want)
	}
	s := source(375)
	for _, list := range manyHyps(&s) {
		if len(list) > 1 {
			is(t, fmt.Sprint(list), all(impl.MarginOf(list)), all(list[1].Cost-list[0].Cost, impl.OK))
		}
	}
	refusedHyps(t, "MarginOf", func(list []impl.Hyp) []any { return all(impl.MarginOf(list)) }, all(0, impl.ErrInvalid))
}

func TestRaiseHyps(t *testing.T) {
	none := all([]impl.Hyp{}, impl.ErrRange)
	for name, c := range map[string]struct {
		list []impl.Hyp
		by   int64
		want []any
	}{
		"by nothing":                     {hyps("ab", 12, 40), 0, all(hyps("ab", 12, 40), impl.OK)},
		"by 3":                           {hyps("ab", 12, 40), 3, all(hyps("ab", 15, 43), impl.OK)},
		"as much as allowed":             {hyps("ab", 12, 40), 999960, all(hyps("ab", 999972, 1000000), impl.OK)},
		"one more":                       {hyps("ab", 12, 40), 999961, none},
		"by the most":                    {hyps("ab", 12, 40), 1000000, none},
		"0 by the most":                  {hyps("a", 0), 1000000, all(hyps("a", 1000000), impl.OK)},
		"zeros by the most":              {hyps("ab", 0, 0), 1000000, all(hyps("ab", 1000000, 1000000), impl.OK)},
		"only the last one too great":    {hyps("ab", 0, 1), 1000000, none},
		"1 by the most":                  {hyps("a", 1), 1000000, none},
		"the greatest by nothing":        {hyps("a", 1000000), 0, all(hyps("a", 1000000), impl.OK)},
		"the greatest by 1":              {hyps("a", 1000000), 1, none},
		"nothing by nothing":             {nil, 0, all([]impl.Hyp{}, impl.OK)},
		"nothing by the most":            {nil, 1000000, all([]impl.Hyp{}, impl.OK)},
		"the most, all but the last two": {mostHyps(), 1, none},
		"the most":                       {hyps("abcdefgh", 1, 2, 3, 4, 5, 6, 7, 8), 999992, all(hyps("abcdefgh", 999993, 999994, 999995, 999996, 999997, 999998, 999999, 1000000), impl.OK)},
		"the most by one more":           {hyps("abcdefgh", 1, 2, 3, 4, 5, 6, 7, 8), 999993, none},
	} {
		is(t, name, all(impl.RaiseHyps(c.list, c.by)), c.want)
	}
}

func TestRaiseManyHyps(t *testing.T) {
	s := source(376)
	for _, list := range manyHyps(&s) {
		room := int64(1000000)
		if len(list) > 0 {
			room -= list[len(list)-1].Cost
		}
		for _, by := range row(0, min(1, room), room/2, max(room-1, 0), room) {
			want := slices.Clone(list)
			for at := range want {
				want[at].Cost += by
			}
			is(t, "raised", all(impl.RaiseHyps(list, by)), all(want, impl.OK))
		}
		for _, by := range append(wrongCosts(), room+1, room+2) {
			is(t, "too much", all(impl.RaiseHyps(list, by)), all([]impl.Hyp{}, impl.ErrRange))
		}
	}
	for _, by := range append(wrongCosts(), 0, 1, impl.MaxCost) {
		refusedHyps(t, "RaiseHyps", func(list []impl.Hyp) []any { return all(impl.RaiseHyps(list, by)) }, all([]impl.Hyp{}, impl.ErrInvalid))
	}
}
