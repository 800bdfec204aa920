package tests

import (
	"fmt"
	"slices"
	"strings"
	"testing"

	"loop.example/g00918/impl"
)

// What follows states chapter 13 in another way, without the program's functions.

func hyp(label string, cost int64) impl.Hyp { return impl.Hyp{Label: label, Cost: cost} }

// hyps returns a list of hypotheses; the bytes of labels are their labels.
func hyps(labels string, costs ...int64) []impl.Hyp {
	var list []impl.Hyp
	for at, cost := range costs {
		list = append(list, hyp(labels[at:at+1], cost))
	}
	return list
}

func setting(points, most, pen int64) impl.Setting {
	return impl.Setting{Points: points, Most: most, Pen: pen}
}

// standsBefore reports whether a hypothesis stands in front of another one.
func standsBefore(h, other impl.Hyp) bool {
	return h.Cost < other.Cost || h.Cost == other.Cost && h.Label < other.Label
}

// areHyps reports whether ValidHyps has to: it looks at each pair.
func areHyps(list []impl.Hyp) bool {
	for at, h := range list {
		if !isLabelFor(h.Label) || h.Cost < 0 || h.Cost > 1000000 {
			return false
		}
		for _, later := range list[at+1:] {
			if later.Label == h.Label || !standsBefore(h, later) {
				return false
			}
		}
	}
	return len(list) <= 8
}

// chosenFor returns the first most hypotheses of a list: it takes the first one and what is left of its label away, again and again.
func chosenFor(list []impl.Hyp, most int64) []impl.Hyp {
	var chosen []impl.Hyp
	rest := slices.Clone(list)
	for int64(len(chosen)) < most && len(rest) > 0 {
		next := rest[0]
		for _, h := range rest {
			if standsBefore(h, next) {
				next = h
			}
		}
		chosen = append(chosen, next)
		rest = slices.DeleteFunc(rest, func(h impl.Hyp) bool { return h.Label == next.Label })
	}
	return chosen
}

// hypsFor returns what HypsOf has to return; there is a stroke at least.
func hypsFor(s impl.Store, i impl.Ink, t impl.Setting) []impl.Hyp {
	var list []impl.Hyp
	for _, m := range matchesFor(s, featsIn(i, t.Points)) {
		cost := m.Cost
		for range i.Strokes[1:] {
			cost += t.Pen
		}
		list = append(list, hyp(s.Templates[m.Index].Label, cost))
	}
	return chosenFor(list, t.Most)
}

// hypsTextFor returns the text of a list, valid or not.
func hypsTextFor(list []impl.Hyp) string {
	if len(list) == 0 {
		return "none"
	}
	var words []string
	for _, h := range list {
		words = append(words, fmt.Sprintf("%s:%d", h.Label, h.Cost))
	}
	return strings.Join(words, " ")
}

// wrongCosts are no costs of hypotheses.
func wrongCosts() []int64 { return append(extremes(), -1, -2, impl.MaxCost+1, impl.MaxCost+2) }

// wrongMosts are no numbers of hypotheses.
func wrongMosts() []int64 { return append(extremes(), 0, -1, -8, impl.MaxHyps+1, impl.MaxHyps+2) }

// wrongSettings are invalid, each for one reason.
func wrongSettings() map[string]impl.Setting {
	wrong := map[string]impl.Setting{"zero": {}, "all one too great": setting(impl.MaxFeats+1, impl.MaxHyps+1, impl.MaxPen+1), "all one too small": setting(1, 0, -1)}
	for _, n := range append(extremes(), 1, 0, -1, -2, impl.MaxFeats+1, impl.MaxFeats+2, impl.MaxSeq) {
		wrong["Points "+impl.Decimal(n)] = setting(n, 3, 20)
	}
	for _, n := range wrongMosts() {
		wrong["Most "+impl.Decimal(n)] = setting(2, n, 20)
	}
	for _, n := range append(extremes(), -1, -2, impl.MaxPen+1, impl.MaxPen+2, impl.MaxCost) {
		wrong["Pen "+impl.Decimal(n)] = setting(2, 3, n)
	}
	return wrong
}

// mostHyps are as many hypotheses as there may be.
func mostHyps() []impl.Hyp { return hyps("a-0(z=.b", 0, 1, 1, 12, 12, 40, 999999, 1000000) }

// wrongHyps are no hypotheses, each for one reason.
func wrongHyps() map[string][]impl.Hyp {
	wrong := map[string][]impl.Hyp{
		"one too many": hyps("abcdefghi", 1, 2, 3, 4, 5, 6, 7, 8, 9), "one too many, of equal costs": hyps("abcdefghi", 5, 5, 5, 5, 5, 5, 5, 5, 5),
		"two too many": hyps("abcdefghij", 1, 2, 3, 4, 5, 6, 7, 8, 9, 10), "all labels": hyps(labelBytes, make([]int64, 45)...), "far too many": slices.Repeat(mostHyps(), 5000),
		"one twice": hyps("aa", 5, 5), "a label twice": hyps("aa", 5, 6), "a label twice, falling": hyps("aa", 6, 5), "one too many with a label twice": hyps("abcdefgha", 1, 2, 3, 4, 5, 6, 7, 8, 9),
		"a label twice, apart": hyps("aba", 5, 6, 7), "a label twice at the end": hyps("abb", 5, 6, 7), "a label twice at the beginning": hyps("aab", 5, 6, 7), "the last of the most twice": hyps("abcdefgg", 1, 2, 3, 4, 5, 6, 7, 8),
		"the first and the last one of the most": hyps("abcdefga", 1, 2, 3, 4, 5, 6, 7, 8), "thrice": hyps("aaa", 5, 6, 7), "the most of one": hyps("aaaaaaaa", 1, 2, 3, 4, 5, 6, 7, 8),
		"costs that fall": hyps("ab", 6, 5), "costs that fall to 0": hyps("ab", 1, 0), "costs that fall at the end": hyps("abc", 5, 7, 6), "costs that fall at the beginning": hyps("abc", 6, 5, 7), "all fall": hyps("abc", 7, 6, 5),
		"costs that fall from the first to the last": hyps("abc", 6, 7, 5), "the greatest cost in front": hyps("ab", 1000000, 999999), "the last of the most falls": hyps("abcdefgh", 1, 2, 3, 4, 5, 6, 8, 7),
		"equal costs, labels that fall": hyps("ba", 5, 5), "equal costs of 0": hyps("ba", 0, 0), "equal costs at the end": hyps("acb", 4, 5, 5), "equal costs at the beginning": hyps("bac", 5, 5, 6), "the greatest costs": hyps("ba", 1000000, 1000000),
		"labels that fall in the middle": hyps("abdce", 4, 5, 5, 5, 6), "a digit behind a letter": hyps("a9", 5, 5), "a sign behind a digit": hyps("0/", 5, 5), "a digit behind the equals sign": hyps("=9", 5, 5),
		"only zero": {{}}, "zero in front": {{}, hyp("a", 5)}, "zero behind": {hyp("a", 0), {}}, "the most zeros": make([]impl.Hyp, 8),
	}
	for _, label := range wrongLabels() {
		name := fmt.Sprintf("label %q", label)
		wrong["only "+name], wrong["first "+name] = []impl.Hyp{hyp(label, 5)}, []impl.Hyp{hyp(label, 5), hyp("b", 6)}
		wrong["last "+name], wrong["middle "+name] = []impl.Hyp{hyp("a", 4), hyp(label, 5)}, []impl.Hyp{hyp("a", 4), hyp(label, 5), hyp("b", 6)}
	}
	for _, cost := range wrongCosts() {
		name := "cost " + impl.Decimal(cost)
		wrong["only "+name], wrong["both "+name] = hyps("a", cost), hyps("ab", cost, cost)
		// Each of these is rising at least where it is possible, so that only the cost is wrong.
		wrong["first "+name], wrong["last "+name], wrong["last of the most "+name] = hyps("ab", cost, 1000000), hyps("ab", 0, cost), hyps("abcdefgh", 1, 2, 3, 4, 5, 6, 7, cost)
	}
	return wrong
}

// refusedHyps checks a function of hypotheses with lists that are none.
func refusedHyps(t *testing.T, name string, call func(list []impl.Hyp) []any, want []any) {
	t.Helper()
	for reason, list := range wrongHyps() {
		is(t, name+": "+reason, call(list), want)
	}
}

// randomHyps returns hypotheses with these labels; their costs are often equal.
func randomHyps(s *source, labels string, below int64) []impl.Hyp {
	var list []impl.Hyp
	for range s.below(14) {
		at := s.below(int64(len(labels)))
		list = append(list, hyp(labels[at:at+1], s.below(below)))
	}
	return chosenFor(list, impl.MaxHyps)
}

// manyHyps are hypotheses of all sorts.
func manyHyps(s *source) [][]impl.Hyp {
	lists := [][]impl.Hyp{nil, {}, hyps("a", 0), hyps("a", 1000000), hyps("z", 5), hyps("ab", 12, 40), hyps("ba", 12, 40), hyps("ab", 12, 12), hyps("ab", 0, 1000000), hyps("abcdefgh", slices.Repeat(row(7), 8)...), mostHyps()}
	for _, label := range eachOf(labelBytes) {
		lists = append(lists, hyps(label, s.below(50)))
	}
	for _, below := range row(1, 2, 4, 30, 1000000) {
		for range 20 {
			lists = append(lists, randomHyps(s, labelBytes, below), randomHyps(s, "abcdefghijkl", below), randomHyps(s, "ab(", below))
		}
	}
	return lists
}

// allHyps returns all lists of at most so many hypotheses of some sorts, valid or not.
func allHyps(most int, sorts ...impl.Hyp) [][]impl.Hyp {
	lists := [][]impl.Hyp{{}}
	for at := 0; at < len(lists); at++ {
		if len(lists[at]) == most {
			break
		}
		for _, h := range sorts {
			lists = append(lists, append(slices.Clone(lists[at]), h))
		}
	}
	return lists
}

// readHyps returns both results of ReadHyps.
func readHyps(text string) []any {
	list, ok := impl.ReadHyps(text)
	return all(list, ok)
}
