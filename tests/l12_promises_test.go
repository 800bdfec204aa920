package tests

import (
	"slices"
	"testing"

	"loop.example/g00918/impl"
)

// perceptronCalls are calls of all functions of chapter 12.
func perceptronCalls(p, other impl.Perceptron, s impl.Sample, list []impl.Sample, epochs int64, text string) []any {
	return all(
		all(impl.InputOf(s.Feats)), all(impl.NewPerceptron(p.Labels)), impl.ValidPerceptron(p), impl.SamePerceptron(p, other), all(impl.ScoresOf(p, s.Feats)), all(impl.Classify(p, s.Feats)),
		all(impl.TrainOne(p, s)), trainings(p, list, epochs), impl.PerceptronText(p), readPerceptron(text), readPerceptron(impl.PerceptronText(p)),
	)
}

// TestPurityOfPerceptrons is for promise 1: calls return, leave their arguments as they are, and repeat their results.
func TestPurityOfPerceptrons(t *testing.T) {
	s := source(360)
	right, wrong := append(manyPerceptrons(&s), limitsPerceptron()), inOrder(wrongPerceptrons())
	wrongOnes, texts := inOrder(wrongSamples()), append(wrongPerceptronLines(), "", "a", "a"+zeros(25)+"\n", "a"+zeros(25)+"\nb"+zeros(25)+"\n")
	numbers := append(extremes(), 0, 1, 2, 3, 19, impl.MaxEpochs, impl.MaxEpochs, impl.MaxEpochs+1, -1)
	for range 700 {
		p, other := right[s.below(int64(len(right)))], right[s.below(int64(len(right)))]
		list := randomSamples(&s, p, s.below(impl.MaxSamples+3), fewFeats)
		one := randomSamples(&s, p, 1, randomFeats)[0]
		switch s.below(8) {
		case 0:
			p = wrong[s.below(int64(len(wrong)))]
		case 1:
			one = wrongOnes[s.below(int64(len(wrongOnes)))]
			list = append(list, one)
		case 2:
			one.Label = labelBytes[s.below(40):][:1]
			list = append(list, one)
		}
		text, epochs := texts[s.below(int64(len(texts)))], numbers[s.below(int64(len(numbers)))]
		p2, other2, one2, list2 := roomy(p), roomy(other), roomy(one), roomy(list)
		before := memoryOf(p2, other2, one2, list2)
		results := perceptronCalls(p2, other2, one2, list2, epochs, text)
		is(t, "arguments", memoryOf(p2, other2, one2, list2), before)
		is(t, "equal results", perceptronCalls(roomy(p), roomy(other), roomy(one), roomy(list), epochs, text), results)
	}
}

// TestPerceptronsWithExtremes has numbers near the ends of int64 in all places of a call.
func TestPerceptronsWithExtremes(t *testing.T) {
	good, a := blank("ab"), sample("b", corner())
	invalid := refusedTrainings(impl.ErrInvalid)
	for _, n := range extremes() {
		is(t, "epochs", all(impl.Train(good, samples(a), n)), all(impl.Perceptron{}, row(), impl.ErrRange))
		for _, m := range extremes() {
			wrong := sample("b", feats(n, m, n))
			is(t, "an input", all(impl.InputOf(wrong.Feats)), all(row(), impl.ErrInvalid))
			is(t, "a sample", all(impl.TrainOne(good, wrong)), all(impl.Perceptron{}, false, impl.ErrInvalid))
			is(t, "samples", trainings(good, samples(a, wrong), m), invalid)
			bad := perceptron("ab", weights(3, n, 8, m, 24, n), weights(3, m, 8, n, 24, m))
			is(t, "valid", all(impl.ValidPerceptron(bad), impl.PerceptronText(bad), readPerceptron(perceptronTextFor(bad))), all(false, "", all(impl.Perceptron{}, false)))
			is(t, "scores", all(all(impl.ScoresOf(bad, a.Feats)), all(impl.Classify(bad, a.Feats))), all(all(row(), impl.ErrInvalid), all("", 0, impl.ErrInvalid)))
			is(t, "a step", all(impl.TrainOne(bad, a)), all(impl.Perceptron{}, false, impl.ErrInvalid))
			is(t, "trainings", trainings(bad, samples(a), m), invalid)
		}
	}
}

// resultsOfPerceptron are results with memory of chapter 12, by their names.
func resultsOfPerceptron(p impl.Perceptron, s impl.Sample, list []impl.Sample) map[string]any {
	one, _, _ := impl.TrainOne(p, s)
	epoch, _, _ := impl.TrainEpoch(p, list)
	none, noChanges, _ := impl.Train(p, list, 0)
	trained, changes, _ := impl.Train(p, list, 3)
	same, _, _ := impl.TrainEpoch(p, nil)
	again, zero, _ := impl.Train(p, nil, 20)
	return map[string]any{
		"InputOf": first(impl.InputOf(s.Feats)), "NewPerceptron": first(impl.NewPerceptron(p.Labels)), "ScoresOf": first(impl.ScoresOf(p, s.Feats)), "MistakesOf": first(impl.MistakesOf(p, list)),
		"TrainOne": one, "TrainEpoch": epoch, "TrainEpoch of nothing": same, "Train, no epochs": all(none, noChanges), "Train": all(trained, changes), "Train of nothing": all(again, zero),
		"ReadPerceptron": readPerceptron(impl.PerceptronText(p))[0],
	}
}

// memoryShared reports whether a result, or one of several, shares memory with an argument or with another result.
func memoryShared(result any, arguments ...any) bool {
	several, ok := result.([]any)
	if !ok {
		return sharesMemory(result, arguments...)
	}
	for at, one := range several {
		if sharesMemory(one, slices.Concat(several[at+1:], arguments)...) {
			return true
		}
	}
	return false
}

// flat returns all values, those of lists one by one.
func flat(values []any) []any {
	var list []any
	for _, v := range values {
		if several, ok := v.([]any); ok {
			list = append(list, several...)
		} else {
			list = append(list, v)
		}
	}
	return list
}

// TestPerceptronResultsAreNew is for promise 1: a result shares no memory with an argument or with another result.
func TestPerceptronResultsAreNew(t *testing.T) {
	s := source(361)
	list := randomWeights(&s, 900)
	// Rows that are the same memory.
	shared := perceptron("abc", list, list, list)
	for _, p := range append(manyPerceptrons(&s)[:20], plainPerceptron(), limitsPerceptron(), shared) {
		if len(p.Labels) != 3 || &p.Weights[0][0] != &p.Weights[1][0] {
			p = roomy(p)
		}
		list := roomy(randomSamples(&s, p, 20, fewFeats))
		for _, label := range p.Labels {
			// One of these changes nothing, and the others do.
			one := roomy(sample(label, corner()))
			results, again := resultsOfPerceptron(p, one, list), resultsOfPerceptron(p, one, list)
			for name, result := range results {
				is(t, name, all(memoryShared(result, p, one, list), memoryShared(result, flat(inOrder(again))...)), all(false, false))
			}
		}
	}
	is(t, "what shares memory", all(sharesMemory(shared), sharesMemory(plainPerceptron())), all(true, false))
}

// TestSharedRows has a perceptron whose rows are the same memory; each row of the result has weights of its own.
func TestSharedRows(t *testing.T) {
	one := sample("b", corner())
	list := weights(3, 5, 0, 7)
	shared, apart := perceptron("abc", list, list, list), perceptron("abc", slices.Clone(list), slices.Clone(list), slices.Clone(list))
	is(t, "a step", all(impl.TrainOne(shared, one)), oneFor(apart, one))
	is(t, "a training", all(impl.Train(shared, samples(one, sample("c", otherCorner())), 9)), trainFor(apart, samples(one, sample("c", otherCorner())), 9))
	is(t, "the argument", all(shared, list), all(apart, weights(3, 5, 0, 7)))
	long := make([]int64, 75)
	parts := perceptron("abc", long[:25], long[25:50], long[50:])
	is(t, "parts of one list", all(impl.TrainOne(parts, one)), oneFor(blank("abc"), one))
	is(t, "the list", long, make([]int64, 75))
}

// TestPerceptronResultsWhenOverwritten is for promise 1, with what can be seen of it from without.
func TestPerceptronResultsWhenOverwritten(t *testing.T) {
	s := source(362)
	for range 60 {
		p := roomy(randomPerceptron(&s, 300))
		list := roomy(randomSamples(&s, p, 5, fewFeats))
		before, want := memoryOf(p, list), perceptronCalls(p, p, list[0], list, 3, "")
		none, _, _ := impl.Train(p, list, 0)
		trained, changes, _ := impl.Train(p, list, 5)
		one, _, _ := impl.TrainOne(p, list[0])
		fresh, _ := impl.NewPerceptron(p.Labels)
		read, _ := impl.ReadPerceptron(impl.PerceptronText(p))
		for _, result := range []impl.Perceptron{none, trained, one, fresh, read} {
			for at := range result.Weights {
				weights := result.Weights[at][:cap(result.Weights[at])]
				for k := range weights {
					weights[k] = -9
				}
			}
			clear(result.Weights[:cap(result.Weights)])
			clear(result.Labels[:cap(result.Labels)])
		}
		clear(changes)
		is(t, "the arguments when the results are overwritten", memoryOf(p, list), before)
		is(t, "further results", perceptronCalls(p, p, list[0], list, 3, ""), want)
	}
}

// TestResultsWhenPerceptronsAreOverwritten changes the arguments and looks at the results.
func TestResultsWhenPerceptronsAreOverwritten(t *testing.T) {
	p, labels := plainPerceptron(), eachOf("+am")
	list := samples(sample("a", corner()), sample("m", otherCorner()), sample("+", corner()))
	none, _, _ := impl.Train(p, list, 0)
	trained, changes, _ := impl.Train(p, list, 5)
	same, _, _ := impl.TrainEpoch(p, nil)
	fresh, _ := impl.NewPerceptron(labels)
	input, _ := impl.InputOf(list[0].Feats)
	for _, weights := range p.Weights {
		clear(weights)
	}
	clear(p.Weights)
	clear(p.Labels)
	clear(labels)
	list[0].Feats[0] = feat(-9, -9, -9)
	clear(list)
	list = samples(sample("a", corner()), sample("m", otherCorner()), sample("+", corner()))
	is(t, "none", all(none, same), all(plainPerceptron(), plainPerceptron()))
	is(t, "trained", all(trained, changes, impl.OK), trainFor(plainPerceptron(), list, 5))
	is(t, "fresh", fresh, blank("+am"))
	is(t, "the input", input, inputFor(corner()))
}

// TestTrainingIsOneStepAfterTheOther is for promise 12, with the program's own steps.
func TestTrainingIsOneStepAfterTheOther(t *testing.T) {
	s := source(363)
	for range 200 {
		p := randomPerceptron(&s, row(0, 9, 300, 70000)[s.below(4)])
		list, epochs := randomSamples(&s, p, s.below(impl.MaxSamples+1), fewFeats), s.below(impl.MaxEpochs+1)
		after, changes := p, row()
		for range epochs {
			byEpoch, count, code := impl.TrainEpoch(after, list)
			steps := int64(0)
			for _, one := range list {
				wrong, _ := impl.MistakesOf(after, samples(one))
				label, _, _ := impl.Classify(after, one.Feats)
				next, changed, code := impl.TrainOne(after, one)
				is(t, "a step", all(changed, code), all(label != one.Label, impl.OK))
				is(t, "a change is a mistake", all(len(wrong) == 1, !impl.SamePerceptron(after, next)), all(changed, changed))
				if changed {
					steps++
				}
				after = next
			}
			is(t, "an epoch", all(byEpoch, count, code), all(after, steps, impl.OK))
			changes = append(changes, steps)
			if steps == 0 {
				break
			}
		}
		is(t, "a training", all(impl.Train(p, list, epochs)), all(after, changes, impl.OK))
	}
}

// columnSums returns the sum of the weights of all labels for each index.
func columnSums(p impl.Perceptron) []int64 {
	sums := make([]int64, 25)
	for _, list := range p.Weights {
		for at, n := range list {
			sums[at] += n
		}
	}
	return sums
}

// TestTrainingKeepsSums is for promise 12.
func TestTrainingKeepsSums(t *testing.T) {
	s := source(364)
	changed := 0
	for range 300 {
		p := randomPerceptron(&s, row(0, 9, 300, 70000)[s.below(4)])
		list := randomSamples(&s, p, 1+s.below(impl.MaxSamples), []func(*source, int64) []impl.Feat{fewFeats, randomFeats}[s.below(2)])
		want := columnSums(p)
		one, isChanged, _ := impl.TrainOne(p, list[0])
		epoch, _, _ := impl.TrainEpoch(p, list)
		trained, _, _ := impl.Train(p, list, s.below(impl.MaxEpochs+1))
		is(t, "sums", all(columnSums(one), columnSums(epoch), columnSums(trained)), all(want, want, want))
		is(t, "labels", all(one.Labels, epoch.Labels, trained.Labels), all(p.Labels, p.Labels, p.Labels))
		is(t, "valid", all(impl.ValidPerceptron(one), impl.ValidPerceptron(epoch), impl.ValidPerceptron(trained)), all(true, true, true))
		if isChanged {
			changed++
		}
	}
	is(t, "steps of both sorts", changed > 50 && changed < 290, true)
}

// TestTrainingEndsWithoutMistakes is for promise 12: where an epoch has no changes, there are no mistakes, and only there.
func TestTrainingEndsWithoutMistakes(t *testing.T) {
	s := source(365)
	ended, others := 0, 0
	for range 300 {
		p, list := blank("012"), separable(&s, "012", s.below(impl.MaxSamples+1))
		if s.below(3) == 0 {
			list = randomSamples(&s, p, s.below(impl.MaxSamples+1), fewFeats)
		}
		after, changes, code := impl.Train(p, list, 1+s.below(impl.MaxEpochs))
		wrong, wrongCode := impl.MistakesOf(after, list)
		is(t, "codes", all(code, wrongCode), all(impl.OK, impl.OK))
		is(t, "only the last epoch may have no changes", slices.Contains(changes[:len(changes)-1], 0), false)
		if changes[len(changes)-1] > 0 {
			others++
			continue
		}
		ended++
		is(t, "no mistakes", wrong, row())
		is(t, "nothing more to learn", all(impl.Train(after, list, 20)), all(after, row(0), impl.OK))
		for _, one := range list {
			label, _, _ := impl.Classify(after, one.Feats)
			is(t, "the label", label, one.Label)
		}
	}
	is(t, "trainings of both sorts", all(ended > 50, others > 50), all(true, true))
}
