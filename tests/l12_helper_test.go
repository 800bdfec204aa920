package tests

import (
	"fmt"
	"slices"
	"strings"
	"testing"

	"loop.example/g00918/impl"
)

// What follows states chapter 12 in another way, without the program's functions.

func sample(label string, list []impl.Feat) impl.Sample {
	return impl.Sample{Label: label, Feats: list}
}

func samples(list ...impl.Sample) []impl.Sample { return list }

// perceptron returns a perceptron; the bytes of labels are its labels.
func perceptron(labels string, weights ...[]int64) impl.Perceptron {
	return impl.Perceptron{Labels: eachOf(labels), Weights: weights}
}

// blank returns the perceptron with weights 0.
func blank(labels string) impl.Perceptron {
	p := perceptron(labels)
	for range labels {
		p.Weights = append(p.Weights, weights())
	}
	return p
}

// weights returns a row of weights: an index and its weight, in turn; the others are 0.
func weights(numbers ...int64) []int64 {
	list := make([]int64, 25)
	for at := 0; at < len(numbers); at += 2 {
		list[numbers[at]] = numbers[at+1]
	}
	return list
}

// belongs reports whether a feature counts for an index of the input.
func belongs(f impl.Feat, index int64) bool {
	if index < 8 {
		return f.D == index
	}
	left, top := (index-8)%4*64, (index-8)/4*64
	return left <= f.X && f.X < left+64 && top <= f.Y && f.Y < top+64
}

// inputFor returns what InputOf has to return.
func inputFor(list []impl.Feat) []int64 {
	var input []int64
	for index := range int64(24) {
		count := int64(0)
		for _, f := range list {
			if belongs(f, index) {
				count++
			}
		}
		input = append(input, rounded(256*count, int64(len(list))))
	}
	return append(input, 256)
}

// scoresFor returns what ScoresOf has to return.
func scoresFor(p impl.Perceptron, list []impl.Feat) []int64 {
	input := inputFor(list)
	scores := make([]int64, len(p.Labels))
	for at := range input {
		for k := range scores {
			scores[k] += input[at] * p.Weights[k][at]
		}
	}
	return scores
}

// classFor returns the label and the margin that Classify has to return.
func classFor(p impl.Perceptron, list []impl.Feat) (string, int64) {
	scores := scoresFor(p, list)
	for at, score := range scores {
		margin, isFirst := int64(1)<<62, true
		for k, other := range scores {
			if k == at {
				continue
			}
			isFirst = isFirst && (score > other || score == other && at < k)
			margin = min(margin, score-other)
		}
		if isFirst && len(scores) == 1 {
			return p.Labels[at], 0
		}
		if isFirst {
			return p.Labels[at], margin
		}
	}
	panic("no labels")
}

// deepCopy returns an equal perceptron with memory of its own.
func deepCopy(p impl.Perceptron) impl.Perceptron {
	with := impl.Perceptron{Labels: slices.Clone(p.Labels)}
	for _, row := range p.Weights {
		with.Weights = append(with.Weights, slices.Clone(row))
	}
	return with
}

// stepFor returns the perceptron after a sample, and whether it has changed; the result may be invalid.
func stepFor(p impl.Perceptron, s impl.Sample) (impl.Perceptron, bool) {
	guess, _ := classFor(p, s.Feats)
	after := deepCopy(p)
	if guess == s.Label {
		return after, false
	}
	for k, label := range after.Labels {
		for at, n := range inputFor(s.Feats) {
			switch label {
			case s.Label:
				after.Weights[k][at] += n
			case guess:
				after.Weights[k][at] -= n
			}
		}
	}
	return after, true
}

// isFull reports whether a weight is out of range.
func isFull(p impl.Perceptron) bool {
	all := slices.Concat(p.Weights...)
	return slices.Max(all) > 1000000 || slices.Min(all) < -1000000
}

// oneFor, epochFor and trainFor return what TrainOne, TrainEpoch and Train have to return for valid arguments.
func oneFor(p impl.Perceptron, s impl.Sample) []any {
	after, changed := stepFor(p, s)
	if isFull(after) {
		return all(impl.Perceptron{}, false, impl.ErrFull)
	}
	return all(after, changed, impl.OK)
}

func epochFor(p impl.Perceptron, list []impl.Sample) []any {
	after, changes, full := trainedFor(p, list, 1)
	if full {
		return all(impl.Perceptron{}, 0, impl.ErrFull)
	}
	return all(after, changes[0], impl.OK)
}

func trainFor(p impl.Perceptron, list []impl.Sample, epochs int64) []any {
	after, changes, full := trainedFor(p, list, epochs)
	if full {
		return all(impl.Perceptron{}, row(), impl.ErrFull)
	}
	return all(after, changes, impl.OK)
}

// trainedFor does epochs of single steps, and reports whether a weight has been out of range behind one of them.
func trainedFor(p impl.Perceptron, list []impl.Sample, epochs int64) (impl.Perceptron, []int64, bool) {
	changes := row()
	for len(changes) < int(epochs) && (len(changes) == 0 || changes[len(changes)-1] > 0) {
		count := int64(0)
		for _, s := range list {
			var changed bool
			if p, changed = stepFor(p, s); changed {
				count++
			}
			if isFull(p) {
				return impl.Perceptron{}, nil, true
			}
		}
		changes = append(changes, count)
	}
	return p, changes, false
}

// mistakesFor returns what MistakesOf has to return.
func mistakesFor(p impl.Perceptron, list []impl.Sample) []int64 {
	var mistakes []int64
	for at, s := range list {
		if label, _ := classFor(p, s.Feats); label != s.Label {
			mistakes = append(mistakes, int64(at))
		}
	}
	return mistakes
}

// perceptronTextFor returns the text of a perceptron, valid or not.
func perceptronTextFor(p impl.Perceptron) string {
	var lines []string
	for at, label := range p.Labels {
		line := label
		for _, n := range p.Weights[at] {
			line += fmt.Sprintf(" %d", n)
		}
		lines = append(lines, line+"\n")
	}
	return strings.Join(lines, "")
}

// wrongClasses are no labels of a perceptron, each for one reason.
func wrongClasses() map[string][]string {
	wrong := map[string][]string{
		"nil": nil, "none": {}, "two equal ones": {"a", "a"}, "falling": {"b", "a"}, "one that falls at the end": {"a", "c", "b"}, "one that falls at the beginning": {"b", "a", "c"},
		"equal ones at the end": {"a", "b", "b"}, "equal ones at the beginning": {"a", "a", "b"}, "equal ones apart": {"a", "b", "a"}, "a letter before a digit": {"a", "0"},
		"a digit before a sign": {"0", "/"}, "an equals sign before a digit": {"=", "9"}, "parentheses": {")", "("}, "one too many": eachOf("abcdefghijklm"), "two too many": eachOf("abcdefghijklmn"),
		"all of them": eachOf(labelBytes), "the most, and one equal": eachOf("abcdefghijkk"), "the most, falling": eachOf("lkjihgfedcba"), "far too many": slices.Repeat([]string{"a"}, 10000),
	}
	for _, label := range wrongLabels() {
		name := fmt.Sprintf("%q", label)
		wrong["only "+name] = []string{label}
		// One of these is rising at least where it is possible, so that only the label is wrong.
		wrong["first "+name], wrong["last "+name], wrong["between "+name] = []string{label, "z"}, []string{"(", label}, []string{"(", label, "z"}
	}
	return wrong
}

// wrongWeights are no weights.
func wrongWeights() []int64 {
	return append(extremes(), impl.MaxWeight+1, -impl.MaxWeight-1, impl.MaxWeight+2, -impl.MaxWeight-2, 10*impl.MaxWeight)
}

// plainPerceptron is valid; each call makes a new one.
func plainPerceptron() impl.Perceptron {
	p := perceptron("+am")
	for k := range int64(3) {
		p.Weights = append(p.Weights, weights())
		for at := range int64(25) {
			p.Weights[k][at] = (at - 11) * (17*k + 3) * (1 - 2*(at%2))
		}
	}
	return p
}

// wrongPerceptrons are invalid, each for one reason.
func wrongPerceptrons() map[string]impl.Perceptron {
	wrong := map[string]impl.Perceptron{
		"zero": {}, "weights without labels": {Weights: [][]int64{weights()}}, "labels without weights": {Labels: eachOf("a")}, "empty lists": {Labels: []string{}, Weights: [][]int64{}},
		"a row less": perceptron("abc", weights(), weights()), "a row more": perceptron("ab", weights(), weights(), weights()), "far more rows": perceptron("ab", slices.Repeat([][]int64{weights()}, 10000)...),
		"nil rows": perceptron("ab", nil, nil), "as many weights in other rows": perceptron("ab", make([]int64, 24), make([]int64, 26)), "all in one row": perceptron("ab", make([]int64, 50)),
	}
	for name, labels := range wrongClasses() {
		p := impl.Perceptron{Labels: labels}
		for range labels {
			p.Weights = append(p.Weights, weights())
		}
		wrong["labels: "+name] = p
	}
	for at := range 3 {
		place := fmt.Sprint(" in the row ", at)
		for _, count := range []int{0, 1, 24, 26, 50, 10000} {
			p := blank("+am")
			p.Weights[at] = make([]int64, count)
			wrong[fmt.Sprint(count, " weights", place)] = p
		}
		for _, index := range row(0, 7, 8, 12, 23, 24) {
			for _, n := range wrongWeights() {
				p := plainPerceptron()
				p.Weights[at][index] = n
				wrong[fmt.Sprint("the weight ", n, " at ", index, place)] = p
			}
		}
	}
	return wrong
}

// wrongSamples are invalid, each for one reason.
func wrongSamples() map[string]impl.Sample {
	wrong := map[string]impl.Sample{"zero": {}}
	for _, label := range wrongLabels() {
		wrong[fmt.Sprintf("label %q", label)] = sample(label, feats(1, 2, 3))
	}
	for name, list := range wrongFeatLists() {
		wrong["features: "+name] = sample("a", list)
	}
	return wrong
}

// randomPerceptron returns a valid perceptron with weights up to a number; of equal weights there are many if it is small.
func randomPerceptron(s *source, most int64) impl.Perceptron {
	var labels []string
	for _, at := range chosen(s, int64(len(labelBytes)), 1+s.below(impl.MaxClasses)) {
		labels = append(labels, labelBytes[at:at+1])
	}
	p := impl.Perceptron{Labels: labels}
	for range labels {
		p.Weights = append(p.Weights, randomWeights(s, most))
	}
	return p
}

func randomWeights(s *source, most int64) []int64 {
	var list []int64
	for range 25 {
		list = append(list, s.below(2*most+1)-most)
	}
	return list
}

// chosen returns so many different numbers below n, in ascending order.
func chosen(s *source, n, count int64) []int64 {
	var list []int64
	for number := range n {
		if s.below(n-number) < count-int64(len(list)) {
			list = append(list, number)
		}
	}
	return list
}

// randomSamples returns so many valid samples with labels of a perceptron.
func randomSamples(s *source, p impl.Perceptron, count int64, some func(s *source, count int64) []impl.Feat) []impl.Sample {
	var list []impl.Sample
	for range count {
		list = append(list, sample(p.Labels[s.below(int64(len(p.Labels)))], some(s, 1+s.below(12))))
	}
	return list
}

// fewFeats returns so many features of few fields and directions, so that inputs are often alike.
func fewFeats(s *source, count int64) []impl.Feat {
	var list []impl.Feat
	for range count {
		list = append(list, feat(s.below(2)*200, s.below(2)*100, s.below(2)*3))
	}
	return list
}

// manyPerceptrons are valid perceptrons of all sorts.
func manyPerceptrons(s *source) []impl.Perceptron {
	list := []impl.Perceptron{
		blank("a"), blank("("), blank("ab"), blank("abcdefghijkl"), blank("()*+,-./0123"), plainPerceptron(),
		perceptron("a", slices.Repeat(row(impl.MaxWeight), 25)), perceptron("z", slices.Repeat(row(-impl.MaxWeight), 25)),
		perceptron("az", slices.Repeat(row(-impl.MaxWeight), 25), slices.Repeat(row(impl.MaxWeight), 25)),
	}
	for k := range labelBytes {
		list = append(list, perceptron(labelBytes[k:k+1], randomWeights(s, 9)))
	}
	for _, most := range row(0, 1, 9, 256, 70000, impl.MaxWeight-300, impl.MaxWeight) {
		for range 12 {
			list = append(list, randomPerceptron(s, most))
		}
	}
	return list
}

// refusedPerceptrons checks a function of a perceptron with invalid ones.
func refusedPerceptrons(t *testing.T, name string, call func(p impl.Perceptron) []any, want []any) {
	t.Helper()
	for reason, p := range wrongPerceptrons() {
		is(t, name+": "+reason, call(p), want)
	}
}

// readPerceptron returns both results of ReadPerceptron.
func readPerceptron(text string) []any {
	p, ok := impl.ReadPerceptron(text)
	return all(p, ok)
}

// zeros returns the text of so many weights 0, each behind a blank.
func zeros(count int) string { return strings.Repeat(" 0", count) }
