package tests

import (
	"fmt"
	"slices"
	"strings"
	"testing"

	"loop.example/g00918/impl"
)

func TestNewPerceptron(t *testing.T) {
	for _, labels := range []string{
		"a", "z", "0", "9", "(", "=", "ab", "az", "09", "()", "(z", "9=", "=a", "/0", "0a", "+-", "-.", "(=a", "abcdefghijkl", "opqrstuvwxyz", "()*+,-./0123", "+-0123456789", "(0123456789=",
	} {
		is(t, labels, all(impl.NewPerceptron(eachOf(labels))), all(blank(labels), impl.OK))
		p, _ := impl.NewPerceptron(eachOf(labels))
		is(t, labels+", valid", all(impl.ValidPerceptron(p), len(p.Labels), len(p.Weights), len(p.Weights[0])), all(true, len(labels), len(labels), 25))
	}
	for count := 1; count <= 12; count++ {
		for from := 0; from+count <= len(labelBytes); from++ {
			labels := labelBytes[from : from+count]
			is(t, labels, all(impl.NewPerceptron(eachOf(labels))), all(blank(labels), impl.OK))
		}
	}
	for name, labels := range wrongClasses() {
		is(t, name, all(impl.NewPerceptron(labels)), all(impl.Perceptron{}, impl.ErrInvalid))
	}
}

// TestNewPerceptronOfTwo has every pair of bytes as labels.
func TestNewPerceptronOfTwo(t *testing.T) {
	for b := range 256 {
		for c := range 256 {
			labels := []string{string([]byte{byte(b)}), string([]byte{byte(c)})}
			p, code := impl.NewPerceptron(labels)
			want := b < c && isLabelFor(labels[0]) && isLabelFor(labels[1])
			if (code == impl.OK) != want || slices.Equal(p.Labels, labels) != want {
				t.Errorf("%q: got %v and %d", labels, p, code)
			}
		}
	}
}

// TestNewPerceptronCounts has so many labels from the first ones to all.
func TestNewPerceptronCounts(t *testing.T) {
	for count := range len(labelBytes) + 1 {
		want := all(impl.Perceptron{}, impl.ErrInvalid)
		if count >= 1 && count <= 12 {
			want = all(blank(labelBytes[:count]), impl.OK)
		}
		is(t, fmt.Sprint(count, " labels"), all(impl.NewPerceptron(eachOf(labelBytes[:count]))), want)
	}
}

func TestValidPerceptron(t *testing.T) {
	s := source(310)
	for _, p := range manyPerceptrons(&s) {
		is(t, perceptronTextFor(p), impl.ValidPerceptron(p), true)
	}
	for name, p := range wrongPerceptrons() {
		is(t, name, impl.ValidPerceptron(p), false)
	}
	for b := range 256 {
		label := string([]byte{byte(b)})
		p := impl.Perceptron{Labels: []string{label}, Weights: [][]int64{weights()}}
		is(t, fmt.Sprintf("label %q", label), impl.ValidPerceptron(p), isLabelFor(label))
	}
}

// TestValidPerceptronCounts has perceptrons with other numbers of labels, rows and weights.
func TestValidPerceptronCounts(t *testing.T) {
	for labels := range 15 {
		for rows := range 15 {
			p := impl.Perceptron{Labels: eachOf(labelBytes[:labels]), Weights: slices.Repeat([][]int64{weights()}, rows)}
			is(t, fmt.Sprint(labels, " labels and ", rows, " rows"), impl.ValidPerceptron(p), labels == rows && labels >= 1 && labels <= 12)
		}
	}
	for count := range 60 {
		for at := range 3 {
			p := blank("abc")
			p.Weights[at] = make([]int64, count)
			is(t, fmt.Sprint(count, " weights in ", at), impl.ValidPerceptron(p), count == 25)
		}
	}
}

// TestValidPerceptronWeights has a weight at the limits, and beyond them, in each place.
func TestValidPerceptronWeights(t *testing.T) {
	for at := range 3 {
		for index := range 25 {
			for _, n := range row(0, 1, -1, 999999, -999999, 1000000, -1000000) {
				p := plainPerceptron()
				p.Weights[at][index] = n
				is(t, fmt.Sprint(n, " at ", at, " ", index), impl.ValidPerceptron(p), true)
			}
			for _, n := range wrongWeights() {
				p := plainPerceptron()
				p.Weights[at][index] = n
				is(t, fmt.Sprint(n, " at ", at, " ", index), impl.ValidPerceptron(p), false)
			}
		}
	}
}

// changesOfPerceptron change one place of plainPerceptron each.
func changesOfPerceptron() map[string]func(p *impl.Perceptron) {
	changes := map[string]func(p *impl.Perceptron){
		"no labels":             func(p *impl.Perceptron) { p.Labels = nil },
		"no weights":            func(p *impl.Perceptron) { p.Weights = nil },
		"a label less":          func(p *impl.Perceptron) { p.Labels = p.Labels[:2] },
		"without the first":     func(p *impl.Perceptron) { p.Labels = p.Labels[1:] },
		"a label more":          func(p *impl.Perceptron) { p.Labels = append(p.Labels, "z") },
		"an empty label more":   func(p *impl.Perceptron) { p.Labels = append(p.Labels, "") },
		"labels exchanged":      func(p *impl.Perceptron) { slices.Reverse(p.Labels) },
		"a row less":            func(p *impl.Perceptron) { p.Weights = p.Weights[:2] },
		"without the first row": func(p *impl.Perceptron) { p.Weights = p.Weights[1:] },
		"a row more":            func(p *impl.Perceptron) { p.Weights = append(p.Weights, weights()) },
		"an empty row more":     func(p *impl.Perceptron) { p.Weights = append(p.Weights, nil) },
		"rows exchanged":        func(p *impl.Perceptron) { slices.Reverse(p.Weights) },
		"a weight in another row": func(p *impl.Perceptron) {
			p.Weights[1], p.Weights[0] = append(p.Weights[1], p.Weights[0][24]), p.Weights[0][:24]
		},
	}
	for at := range plainPerceptron().Labels {
		place := fmt.Sprint(" of ", at)
		changes["the label"+place] = func(p *impl.Perceptron) { p.Labels[at] = "x" }
		changes["no label"+place] = func(p *impl.Perceptron) { p.Labels[at] = "" }
		changes["a longer label"+place] = func(p *impl.Perceptron) { p.Labels[at] += "\x00" }
		changes["no weights"+place] = func(p *impl.Perceptron) { p.Weights[at] = nil }
		changes["a weight more"+place] = func(p *impl.Perceptron) { p.Weights[at] = append(p.Weights[at], 0) }
		changes["a weight less"+place] = func(p *impl.Perceptron) { p.Weights[at] = p.Weights[at][:24] }
		changes["weights reversed"+place] = func(p *impl.Perceptron) { slices.Reverse(p.Weights[at]) }
		for k := range 25 {
			place := fmt.Sprint(" of ", at, ", ", k)
			changes["a weight"+place] = func(p *impl.Perceptron) { p.Weights[at][k]++ }
			changes["a weight by far"+place] = func(p *impl.Perceptron) { p.Weights[at][k] += 1 << 32 }
			changes["a weight to the end"+place] = func(p *impl.Perceptron) { p.Weights[at][k] = leastInt }
		}
	}
	return changes
}

func TestSamePerceptron(t *testing.T) {
	is(t, "equal", impl.SamePerceptron(plainPerceptron(), plainPerceptron()), true)
	for name, change := range changesOfPerceptron() {
		other, again := plainPerceptron(), plainPerceptron()
		change(&other)
		is(t, name, all(impl.SamePerceptron(plainPerceptron(), other), impl.SamePerceptron(other, plainPerceptron())), all(false, false))
		change(&again)
		is(t, name+" in both", impl.SamePerceptron(other, again), true)
	}
	s := source(311)
	for _, p := range manyPerceptrons(&s) {
		is(t, "with other memory", impl.SamePerceptron(p, roomy(p)), true)
		is(t, "with another label", impl.SamePerceptron(p, impl.Perceptron{Labels: append(slices.Clone(p.Labels[1:]), "~"), Weights: p.Weights}), false)
	}
}

func TestSamePerceptronOfInvalid(t *testing.T) {
	for name, p := range wrongPerceptrons() {
		want := all(true, true, false, false)
		is(t, name, all(impl.SamePerceptron(p, p), impl.SamePerceptron(p, roomy(p)), impl.SamePerceptron(p, plainPerceptron()), impl.SamePerceptron(plainPerceptron(), p)), want)
	}
	nothing, empty := impl.Perceptron{}, impl.Perceptron{Labels: []string{}, Weights: [][]int64{}}
	is(t, "nil and empty lists", all(impl.SamePerceptron(nothing, empty), impl.SamePerceptron(empty, nothing), impl.SamePerceptron(nothing, nothing)), all(true, true, true))
	is(t, "nil and empty rows", impl.SamePerceptron(perceptron("ab", nil, row()), perceptron("ab", row(), nil)), true)
	is(t, "an empty row and none", impl.SamePerceptron(perceptron("ab", row()), perceptron("ab")), false)
	for _, n := range extremes() {
		for _, m := range extremes() {
			is(t, "extremes", impl.SamePerceptron(perceptron("ba", row(n, m)), perceptron("ba", row(m, n))), n == m)
		}
	}
	long := perceptron("a", make([]int64, 100000))
	is(t, "far more weights", all(impl.SamePerceptron(long, perceptron("a", make([]int64, 99999))), impl.SamePerceptron(long, roomy(long))), all(false, true))
	names := strings.Split("äöü,é,\xff", ",")
	is(t, "other labels", all(impl.SamePerceptron(impl.Perceptron{Labels: names}, impl.Perceptron{Labels: slices.Clone(names)}), impl.SamePerceptron(impl.Perceptron{Labels: names}, impl.Perceptron{Labels: names[:2]})), all(true, false))
}
