package tests

import (
	"runtime"
	"slices"
	"strings"
	"sync"
	"testing"
	"time"

	"loop.example/g00918/impl"
)

// latticeCalls are calls of all functions of chapter 15.
func latticeCalls(a, b impl.Lattice, e impl.Edge, text string, n int64) []any {
	return all(
		impl.ValidLattice(a), impl.SameLattice(a, b), all(impl.AddEdge(a, e)), all(impl.BestReading(a)), all(impl.BestReadings(a, n)), all(impl.TextCost(a, text)),
		all(impl.PathCount(a)), all(impl.PruneLattice(a, n)), all(impl.JoinLattices(a, b)), impl.LatticeText(a), readLattice(text),
	)
}

// TestPurityOfLattices is for promise 1: calls return, leave their arguments as they are, and repeat their results.
func TestPurityOfLattices(t *testing.T) {
	s := source(460)
	right, wrong := append(manyLattices(&s), dense(200)), inOrder(wrongLattices())
	edges := append(inOrder(wrongEdges()), edge(0, 1, "a", 5), edge(1, 2, "b", 0), edge(0, 2, "c", 1000000), edge(0, 1, "A", 5), edge(18, 19, "z", 1))
	texts := append(textsUpTo(2, "ab"), "lattice 2\n0 1 a 5\n", "lattice 2\n0 1 A 5\n", "\xff", strings.Repeat("a", 100))
	numbers := append(extremes(), 0, 1, 2, 5, 19, 20, 21, -1, impl.MaxCost, impl.MaxCost+1)
	for range 2500 {
		a, b := right[s.below(int64(len(right)))], right[s.below(int64(len(right)))]
		switch s.below(8) {
		case 0:
			a = wrong[s.below(int64(len(wrong)))]
		case 1:
			b = wrong[s.below(int64(len(wrong)))]
		}
		if len(a.Edges) > 400 || len(b.Edges) > 400 {
			continue
		}
		e, text, n := edges[s.below(int64(len(edges)))], texts[s.below(int64(len(texts)))], numbers[s.below(int64(len(numbers)))]
		first, second := roomy(a), roomy(b)
		before := memoryOf(first, second)
		results := latticeCalls(first, second, e, text, n)
		is(t, "arguments", memoryOf(first, second), before)
		is(t, "equal results", latticeCalls(roomy(a), roomy(b), e, text, n), results)
	}
}

// TestPurityOfLatticesOfInk is for promise 1, for the function that takes ink and a store.
func TestPurityOfLatticesOfInk(t *testing.T) {
	s := source(461)
	inks, wrong := manyWritings(&s), inOrder(wrongInks())
	for range 200 {
		i := inks[s.below(int64(len(inks)))]
		if s.below(8) == 0 {
			i = wrong[s.below(int64(len(wrong)))]
		}
		made, with := partStore(s.below(9), s.below(9), s.below(9)), setting(1+s.below(4), s.below(10), s.below(1002)-1)
		one, other := roomy(i), roomy(made)
		before := memoryOf(one, other)
		result, code := impl.LatticeOf(other, one, with)
		is(t, "arguments", memoryOf(one, other), before)
		is(t, "equal results", all(impl.LatticeOf(roomy(made), roomy(i), with)), all(result, code))
		is(t, "valid, or zero beside a code", all(impl.ValidLattice(result), impl.SameLattice(result, impl.Lattice{})), all(code == impl.OK, code != impl.OK))
	}
}

// TestLatticesWithExtremes has numbers near the ends of int64 in all places of a call.
func TestLatticesWithExtremes(t *testing.T) {
	good, none := theLattice(), all(impl.Lattice{}, impl.ErrInvalid)
	for _, n := range extremes() {
		is(t, "numbers", all(all(impl.BestReadings(good, n)), all(impl.PruneLattice(good, n))), all(all([]impl.Reading{}, impl.ErrRange), all(impl.Lattice{}, impl.ErrRange)))
		for _, m := range extremes() {
			for _, e := range []impl.Edge{edge(n, m, "b", 5), edge(0, n, "b", m), edge(n, 2, "b", m), edge(n, m, "b", n)} {
				is(t, "an edge", all(impl.AddEdge(good, e)), all(impl.Lattice{}, impl.ErrRange))
				for _, bad := range []impl.Lattice{lattice(3, e), lattice(20, e), lattice(n, e), lattice(m, e, e), lattice(n)} {
					is(t, "lattices", latticeCalls(bad, good, e, "a", n), all(
						false, false, none, all(impl.Reading{}, impl.ErrInvalid), all([]impl.Reading{}, impl.ErrInvalid), all(0, impl.ErrInvalid),
						all(0, impl.ErrInvalid), none, none, "", all(impl.Lattice{}, false),
					))
					is(t, "behind another one", all(impl.JoinLattices(good, bad)), none)
				}
			}
			for _, with := range []impl.Setting{setting(n, m, 20), setting(2, n, m), setting(m, 3, n), setting(n, m, n)} {
				is(t, "a setting", all(impl.LatticeOf(plainStore(), bars(2), with)), none)
			}
			is(t, "ink", all(impl.LatticeOf(plainStore(), ink(stroke(point(n, m, 0), point(m, n, 1))), setting(2, 3, 20))), none)
			is(t, "a store", all(impl.LatticeOf(store(n, template("a", feats(n, m, n))), bars(2), setting(2, 3, 20))), none)
		}
	}
}

// resultsOfLattices are results with memory of chapter 15, by their names.
func resultsOfLattices(a, b impl.Lattice) map[string]any {
	text := impl.LatticeText(a)
	results := map[string]any{
		"BestReadings": first(impl.BestReadings(a, 20)), "BestReadings, one": first(impl.BestReadings(a, 1)), "PruneLattice": first(impl.PruneLattice(a, 3)), "PruneLattice, all": first(impl.PruneLattice(a, impl.MaxCost)),
		"JoinLattices": first(impl.JoinLattices(a, b)), "JoinLattices, twice": first(impl.JoinLattices(a, a)), "JoinLattices in front": first(impl.JoinLattices(a, lattice(1))), "JoinLattices behind": first(impl.JoinLattices(lattice(1), a)),
		"ReadLattice": readLattice(text)[0],
	}
	for name, e := range map[string]impl.Edge{"at the beginning": edge(0, 1, "(", 5), "at the end": edge(a.Nodes-2, a.Nodes-1, "z", 5), "in the middle": edge(0, a.Nodes-1, "k", 5)} {
		results["AddEdge "+name] = first(impl.AddEdge(a, e))
	}
	return results
}

// TestLatticeResultsAreNew is for promise 1: a result shares no memory with an argument or with another result.
func TestLatticeResultsAreNew(t *testing.T) {
	s := source(462)
	for k, l := range manyLattices(&s) {
		if k%3 > 0 {
			continue
		}
		a, b := roomy(l), roomy(randomLattice(&s, 3, 9, "abc", 9))
		results, again := resultsOfLattices(a, b), resultsOfLattices(a, b)
		for name, result := range results {
			is(t, name, all(sharesMemory(result, a, b), sharesMemory(result, inOrder(again)...)), all(false, false))
		}
	}
	edges := drawn(4, "0 1 a 5", "0 2 a 5", "0 3 a 5", "1 2 a 5", "1 3 a 5", "2 3 a 5").Edges
	for name, result := range resultsOfLattices(lattice(4, edges[:3]...), lattice(4, edges[3:]...)) {
		is(t, name+" of parts of one list", sharesMemory(result, edges), false)
	}
	is(t, "the list", edges, drawn(4, "0 1 a 5", "0 2 a 5", "0 3 a 5", "1 2 a 5", "1 3 a 5", "2 3 a 5").Edges)
	made, i := roomy(partStore(4, 3, 2)), roomy(bars(9))
	one, other := first(impl.LatticeOf(made, i, setting(2, 8, 20))), first(impl.LatticeOf(made, i, setting(2, 8, 20)))
	is(t, "of ink", all(sharesMemory(one, made, i), sharesMemory(one, other), len(one.Edges)), all(false, false, 36+24+14))
}

// TestLatticeResultsWhenOverwritten is for promise 1, with what can be seen of it from without.
func TestLatticeResultsWhenOverwritten(t *testing.T) {
	s := source(463)
	for range 80 {
		a, b := roomy(randomLattice(&s, 4, 12, "abcd", 9)), roomy(randomLattice(&s, 5, 12, "abcd", 9))
		e := edge(1, 3, "k", 5)
		before, want := memoryOf(a, b), latticeCalls(a, b, e, "ab", 5)
		for _, result := range resultsOfLattices(a, b) {
			switch list := result.(type) {
			case impl.Lattice:
				clear(list.Edges[:cap(list.Edges)])
			case []impl.Reading:
				clear(list[:cap(list)])
			}
		}
		is(t, "the arguments when the results are overwritten", memoryOf(a, b), before)
		is(t, "further results", latticeCalls(a, b, e, "ab", 5), want)
		results := resultsOfLattices(a, b)
		wanted := map[string]any{}
		for name, result := range results {
			switch list := result.(type) {
			case impl.Lattice:
				wanted[name] = roomy(list)
			case []impl.Reading:
				wanted[name] = roomy(list)
			}
		}
		clear(a.Edges[:cap(a.Edges)])
		clear(b.Edges[:cap(b.Edges)])
		for name, result := range results {
			is(t, name+" when the arguments are overwritten", result, wanted[name])
		}
	}
}

// TestReadingsAreInTheirOrder is for promise 15, with the program's own functions, also for lattices with very many paths.
func TestReadingsAreInTheirOrder(t *testing.T) {
	s := source(464)
	lattices := append(manyLattices(&s), dense(200), dense(190), chain(slices.Repeat(row(10), 19)...))
	for range 100 {
		lattices = append(lattices, randomLattice(&s, 2+s.below(19), s.below(400), labelBytes[:1+s.below(45)], 1+s.below(9)))
	}
	for _, l := range lattices {
		list, code := impl.BestReadings(l, impl.MaxBest)
		count, full := impl.PathCount(l)
		is(t, "as many as there are", all(code, len(list) <= impl.MaxBest, full == impl.ErrFull || int64(len(list)) <= count), all(impl.OK, true, true))
		for k, r := range list {
			is(t, "strictly rising", k == 0 || comesBefore(list[k-1], r), true)
			is(t, "the cost of its text", all(impl.TextCost(l, r.Text)), all(r.Cost, impl.OK))
			is(t, "the first ones", all(impl.BestReadings(l, int64(k+1))), all(list[:k+1], impl.OK))
		}
		if len(list) > 0 {
			is(t, "the first one", all(impl.BestReading(l)), all(list[0], impl.OK))
		}
		is(t, "no path", len(list) == 0, count == 0 && full == impl.OK)
	}
}

// TestNoTextCostsLess tries texts that are not among the first readings: none of them stands in front of the last of these.
func TestNoTextCostsLess(t *testing.T) {
	s := source(465)
	found := 0
	for range 60 {
		l := randomLattice(&s, 5+s.below(6), 60, "ab", 4)
		list, _ := impl.BestReadings(l, impl.MaxBest)
		for _, text := range textsUpTo(7, "ab") {
			cost, code := impl.TextCost(l, text)
			r := impl.Reading{Text: text, Cost: cost}
			if code != impl.OK {
				is(t, "not found", all(code, cost), all(impl.ErrNotFound, 0))
				continue
			}
			found++
			isThere := slices.Contains(list, r)
			is(t, "a reading", isThere || len(list) == impl.MaxBest && comesBefore(list[len(list)-1], r), true)
		}
	}
	is(t, "many are found", found > 1000, true)
}

// TestReadingsOfChangedLattices adds edges, prunes and joins lattices: the readings change as they have to.
func TestReadingsOfChangedLattices(t *testing.T) {
	s := source(466)
	for range 400 {
		a, b := randomLattice(&s, 2+s.below(5), s.below(20), "abc", 9), randomLattice(&s, 2+s.below(5), s.below(20), "abc", 9)
		first, found := impl.BestReading(a)
		second, others := impl.BestReading(b)
		joined, code := impl.JoinLattices(a, b)
		is(t, "joined", code, impl.OK)
		if found == impl.OK && others == impl.OK {
			best, _ := impl.BestReading(joined)
			is(t, "the sum of the best ones", best.Cost, first.Cost+second.Cost)
			is(t, "one behind the other", all(impl.TextCost(joined, first.Text+second.Text)), all(best.Cost, impl.OK))
		}
		one, _ := impl.PathCount(a)
		two, _ := impl.PathCount(b)
		is(t, "the product of the numbers of paths", all(impl.PathCount(joined)), all(one*two, impl.OK))
		if found != impl.OK {
			continue
		}
		slack := s.below(8)
		pruned, _ := impl.PruneLattice(a, slack)
		list, _ := impl.BestReadings(a, impl.MaxBest)
		for _, r := range list {
			if r.Cost <= first.Cost+slack {
				is(t, "a reading within the slack", all(impl.TextCost(pruned, r.Text)), all(r.Cost, impl.OK))
			}
		}
		with, code := impl.AddEdge(a, edge(0, a.Nodes-1, "z", s.below(20)))
		after, _ := impl.BestReading(with)
		is(t, "one edge more", all(code, after.Cost <= first.Cost), all(impl.OK, true))
		is(t, "one path more", all(impl.PathCount(with)), all(one+1, impl.OK))
		is(t, "what is read anew", all(impl.TextCost(with, "z")), all(with.Edges[slices.IndexFunc(with.Edges, func(e impl.Edge) bool { return e.Label == "z" })].Cost, impl.OK))
	}
}

// TestLatticesOfInkAtOnce calls the function with goroutines from many goroutines, with one store and one ink for all.
func TestLatticesOfInkAtOnce(t *testing.T) {
	made, i, with := partStore(6, 3, 2), bars(12), setting(2, 8, 20)
	want := all(latticeFor(made, i, with), impl.OK)
	var wait sync.WaitGroup
	for range 16 {
		wait.Go(func() {
			for range 20 {
				is(t, "at once", all(impl.LatticeOf(made, i, with)), want)
			}
		})
	}
	wait.Wait()
}

// TestLatticesOfInkWithFewProcessors repeats calls with different numbers of processors.
func TestLatticesOfInkWithFewProcessors(t *testing.T) {
	made, i, with := partStore(5, 4, 3), bars(11), setting(2, 8, 20)
	want := all(latticeFor(made, i, with), impl.OK)
	before := runtime.GOMAXPROCS(0)
	defer runtime.GOMAXPROCS(before)
	for _, processors := range []int{1, 2, 3, before} {
		runtime.GOMAXPROCS(processors)
		for range 60 {
			is(t, "again", all(impl.LatticeOf(made, i, with)), want)
		}
	}
}

// TestGoroutinesOfLatticesEnd counts goroutines behind calls, those with an error among them.
func TestGoroutinesOfLatticesEnd(t *testing.T) {
	before := runtime.NumGoroutine()
	for range 200 {
		for most, want := range map[int64]int64{0: impl.ErrInvalid, 1: impl.OK, 8: impl.ErrFull} {
			_, code := impl.LatticeOf(partStore(8, 8, 8), bars(16), setting(2, most, 0))
			is(t, "the code", code, want)
		}
	}
	// A goroutine that has done its work may still need a moment to be gone.
	for range 1000 {
		if runtime.NumGoroutine() <= before {
			return
		}
		time.Sleep(time.Millisecond)
	}
	t.Error("goroutines that do not end:", runtime.NumGoroutine()-before)
}

func TestLatticesAreRestoredFromTexts(t *testing.T) {
	s := source(467)
	for range 100 {
		l := randomLattice(&s, 2+s.below(19), s.below(300), labelBytes, 1000001)
		is(t, "restored", readLattice(impl.LatticeText(l)), all(l, true))
	}
	l, _ := impl.LatticeOf(partStore(4, 3, 2), bars(9), setting(2, 8, 20))
	is(t, "of ink", readLattice(impl.LatticeText(l)), all(l, true))
}

// TestReadingsOfJoinedLattices puts each reading of a lattice in front of each one of another lattice.
func TestReadingsOfJoinedLattices(t *testing.T) {
	s := source(468)
	for range 150 {
		a, b := randomLattice(&s, 1+s.below(4), s.below(10), "ab", 5), randomLattice(&s, 1+s.below(4), s.below(10), "ab", 5)
		if s.below(5) == 0 {
			b = a
		}
		least := map[string]int64{}
		for _, r := range readingsFor(a) {
			for _, behind := range readingsFor(b) {
				text, cost := r.Text+behind.Text, r.Cost+behind.Cost
				if known, ok := least[text]; !ok || cost < known {
					least[text] = cost
				}
			}
		}
		var want []impl.Reading
		for text, cost := range least {
			want = append(want, impl.Reading{Text: text, Cost: cost})
		}
		slices.SortFunc(want, inReadingOrder)
		joined, code := impl.JoinLattices(a, b)
		is(t, "joined", code, impl.OK)
		checkReadings(t, "both in the sum", joined, want)
	}
}
