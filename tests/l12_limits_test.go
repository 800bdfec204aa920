package tests

import (
	"fmt"
	"slices"
	"testing"

	"loop.example/g00918/impl"
)

// cornerPlaces are the indices at which the input of corner is 256.
func cornerPlaces() []int64 { return row(3, 8, 24) }

// nearLimit returns a perceptron that takes corner for the label guess, although it is own, and has a weight at an index:
// in the row of own, if grows, and otherwise, with a minus sign, in the row of guess.
func nearLimit(own, guess, index, weight int64, grows bool) impl.Perceptron {
	p := blank("abc")
	other := cornerPlaces()[0]
	if other == index {
		other = cornerPlaces()[1]
	}
	if grows {
		p.Weights[own][index] = weight
		p.Weights[guess][index], p.Weights[guess][other] = 900000, 900000
		return p
	}
	p.Weights[guess][index], p.Weights[guess][other] = -weight, 900000
	p.Weights[own][other], p.Weights[3-own-guess][other] = -900000, -900000
	return p
}

// TestFull has every row and every place in which a weight may pass a limit.
func TestFull(t *testing.T) {
	for own := range int64(3) {
		for guess := range int64(3) {
			for _, index := range cornerPlaces() {
				for _, grows := range []bool{true, false} {
					if own != guess {
						isFullAbove(t, own, guess, index, grows)
					}
				}
			}
		}
	}
}

// isFullAbove asserts that a step by 256 is possible up to 999744, and not from there on.
func isFullAbove(t *testing.T, own, guess, index int64, grows bool) {
	t.Helper()
	one := sample([]string{"a", "b", "c"}[own], corner())
	for _, weight := range row(0, 256, 999488, 999742, 999743, 999744) {
		p := nearLimit(own, guess, index, weight, grows)
		want := oneFor(p, one)
		is(t, fmt.Sprint("up to ", weight+256), all(impl.TrainOne(p, one)), want)
		is(t, "changed", all(want[1], want[2]), all(true, impl.OK))
	}
	for _, weight := range row(999745, 999746, 999999, 1000000) {
		p := nearLimit(own, guess, index, weight, grows)
		name := fmt.Sprint("up to ", weight+256)
		is(t, name, all(impl.TrainOne(p, one)), all(impl.Perceptron{}, false, impl.ErrFull))
		for _, epochs := range row(1, 2, 20) {
			is(t, name, all(impl.Train(p, samples(one), epochs)), all(impl.Perceptron{}, row(), impl.ErrFull))
		}
		is(t, name+", no epochs", all(impl.Train(p, samples(one), 0)), all(p, row(), impl.OK))
		is(t, name+", a mistake", all(impl.MistakesOf(p, samples(one))), all(row(0), impl.OK))
	}
}

// TestFullBySmallSteps has steps by other numbers than 256.
func TestFullBySmallSteps(t *testing.T) {
	// One of n features has the direction 7, and the others have 6.
	for _, n := range row(2, 3, 5, 7, 100, 383, 384) {
		list := append(level(int(n-1), feat(0, 0, 6)), feat(0, 0, 7))
		step := rounded(256, n)
		for _, weight := range row(1000000-step-1, 1000000-step, 1000000-step+1, 1000000) {
			grow, fall := perceptron("ab", weights(6, 1000000, 8, 1000000, 24, 1000000), weights(7, weight)), perceptron("ab", weights(7, -weight, 6, 900000, 8, 900000, 24, 900000), weights())
			for _, p := range []impl.Perceptron{grow, fall} {
				want := all(impl.Perceptron{}, false, impl.ErrFull)
				if weight+step <= 1000000 {
					after, _ := stepFor(p, sample("b", list))
					want = all(after, true, impl.OK)
				}
				is(t, fmt.Sprint("by ", step, " from ", weight), all(impl.TrainOne(p, sample("b", list))), want)
			}
		}
	}
}

// TestFullElsewhere has weights at the limits that are not changed.
func TestFullElsewhere(t *testing.T) {
	one := sample("b", corner())
	for at := range 3 {
		for index := range 25 {
			for _, n := range row(1000000, -1000000) {
				p := perceptron("abc", weights(3, 500000), weights(8, -500000), weights(24, -900000))
				p.Weights[at][index] = n
				want := oneFor(p, one)
				is(t, fmt.Sprint(n, " at ", at, " ", index), all(impl.TrainOne(p, one)), want)
			}
		}
	}
	limits := perceptron("abc", slices.Repeat(row(1000000), 25), slices.Repeat(row(-1000000), 25), slices.Repeat(row(1000000), 25))
	right := samples(sample("a", corner()), sample("a", otherCorner()))
	is(t, "no step at all", all(impl.Train(limits, right, 20)), all(limits, row(0), impl.OK))
	is(t, "a step beyond the limits", all(impl.TrainOne(limits, sample("c", corner()))), all(impl.Perceptron{}, false, impl.ErrFull))
	after := deepCopy(limits)
	for _, index := range cornerPlaces() {
		after.Weights[0][index], after.Weights[1][index] = 999744, -999744
	}
	is(t, "a step back from the limits", all(impl.TrainOne(limits, one)), all(after, true, impl.OK))
}

// TestFullAtEachSample has a weight that becomes too great at the first, a middle and the last sample.
func TestFullAtEachSample(t *testing.T) {
	p := perceptron("abcd", weights(3, 1000000, 4, -900000), weights(3, 999800, 4, -900000), weights(3, -900000, 4, 1000), weights(3, -900000, 4, 1000))
	other := samples(sample("c", otherCorner()), sample("d", otherCorner()))
	for _, fill := range [][]impl.Sample{samples(sample("a", corner())), other} {
		for _, count := range []int{1, 2, 3, 10, 39, 40} {
			list := slices.Repeat(fill, 40)[:count]
			want := trainFor(p, list, 20)
			is(t, "without it", all(all(impl.Train(p, list, 20)), want[2]), all(want, impl.OK))
			for at := range list {
				full := slices.Clone(list)
				full[at] = sample("b", corner())
				got, refused := trainings(p, full, 20), refusedTrainings(impl.ErrFull)
				is(t, fmt.Sprint("at ", at, " of ", count), got[:2], refused[:2])
				is(t, "mistakes all the same", got[2], all(mistakesFor(p, full), impl.OK))
				is(t, "those before it", all(impl.TrainEpoch(p, full[:at])), epochFor(p, full[:at]))
			}
		}
	}
}

// TestFullInLaterEpochs has two steps in each epoch, and a weight that reaches its limit behind some of them.
func TestFullInLaterEpochs(t *testing.T) {
	list := slices.Repeat(samples(sample("b", corner())), 2)
	for steps := range int64(40) {
		rises := perceptron("ab", weights(3, 1000000, 8, 1000000), weights(8, -1000000, 24, 1000000-256*steps))
		falls := perceptron("ab", weights(3, 1000000, 8, 1000000, 24, -1000000+256*steps), weights(8, -1000000))
		for _, p := range []impl.Perceptron{rises, falls} {
			for epochs := int64(1); epochs <= impl.MaxEpochs; epochs++ {
				after, changes, code := impl.Train(p, list, epochs)
				name := fmt.Sprint(steps, " steps and ", epochs, " epochs")
				if 2*epochs > steps {
					is(t, name, all(after, changes, code), all(impl.Perceptron{}, row(), impl.ErrFull))
					continue
				}
				is(t, name, all(changes, code), all(slices.Repeat(row(2), int(epochs)), impl.OK))
				is(t, name+", the weights", all(after.Weights[1][24]-p.Weights[1][24], p.Weights[0][24]-after.Weights[0][24]), all(512*epochs, 512*epochs))
			}
		}
	}
}

// TestFullAndBack has a weight that reaches its limit, goes back, and reaches it again.
func TestFullAndBack(t *testing.T) {
	one, two, three := sample("b", corner()), sample("a", feats(255, 255, 0)), sample("b", feats(255, 0, 1))
	start := perceptron("ab", weights(3, 1000000, 1, 1000000, 11, 1000000), weights(24, 999744))
	reached := perceptron("ab", weights(1, 1000000, 3, 999744, 8, -256, 11, 1000000, 24, -256), weights(3, 256, 8, 256, 24, 1000000))
	back := perceptron("ab", weights(0, 256, 1, 1000000, 3, 999744, 8, -256, 11, 1000000, 23, 256), weights(0, -256, 3, 256, 8, 256, 23, -256, 24, 999744))
	again := perceptron("ab", weights(0, 256, 1, 999744, 3, 999744, 8, -256, 11, 999744, 23, 256, 24, -256), weights(0, -256, 1, 256, 3, 256, 8, 256, 11, 256, 23, -256, 24, 1000000))
	is(t, "reached", all(impl.TrainEpoch(start, samples(one))), all(reached, 1, impl.OK))
	is(t, "back", all(impl.TrainEpoch(start, samples(one, two))), all(back, 2, impl.OK))
	is(t, "reached again", all(impl.TrainEpoch(start, samples(one, two, three))), all(again, 3, impl.OK))
	refused := all(impl.Perceptron{}, 0, impl.ErrFull)
	is(t, "not back", all(impl.TrainEpoch(start, samples(one, three))), refused)
	is(t, "not back before it", all(impl.TrainEpoch(start, samples(one, three, two))), refused)
	is(t, "beyond, even if it would go back", all(impl.TrainEpoch(perceptron("ab", start.Weights[0], weights(24, 999745)), samples(one, two))), refused)
}

// TestFullOfMany has weights near the limits, and compares trainings with single steps.
func TestFullOfMany(t *testing.T) {
	s := source(340)
	counts := map[int64]int{}
	for range 2000 {
		p := blank("abc")
		for _, list := range p.Weights {
			for at := range list {
				list[at] = (1 - 2*s.below(2)) * (1000000 - s.below(900)*s.below(30))
			}
		}
		list, epochs := randomSamples(&s, p, 1+s.below(6), fewFeats), s.below(6)
		want := trainFor(p, list, epochs)
		is(t, "a training", all(impl.Train(p, list, epochs)), want)
		is(t, "an epoch", all(impl.TrainEpoch(p, list)), epochFor(p, list))
		if code, ok := want[2].(int); ok {
			counts[int64(code)]++
		}
	}
	is(t, "trainings of both sorts", all(counts[impl.OK] > 200, counts[impl.ErrFull] > 200), all(true, true))
}
