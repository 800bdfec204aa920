package tests

import (
	"fmt"
	"slices"
	"strconv"
	"strings"
	"testing"

	"loop.example/g00918/impl"
)

// limitsPerceptron has the most labels and weights of both signs up to the limits.
func limitsPerceptron() impl.Perceptron {
	p := blank("()*+,-./0=az")
	for at, list := range p.Weights {
		for k := range list {
			list[k] = []int64{1000000, -1000000, 999999, -999999, 0, 7, -7}[(at+k)%7]
		}
	}
	return p
}

// textsOfPerceptrons are perceptrons and their texts.
func textsOfPerceptrons() map[string]impl.Perceptron {
	return map[string]impl.Perceptron{
		"a 0 0 0 0 0 0 0 0 0 0 0 0 0 0 0 0 0 0 0 0 0 0 0 0 0\n":                        blank("a"),
		"z" + zeros(24) + " 1\n":                                                       perceptron("z", weights(24, 1)),
		"0 -1" + zeros(24) + "\n":                                                      perceptron("0", weights(0, -1)),
		"- -1" + zeros(23) + " -2\n":                                                   perceptron("-", weights(0, -1, 24, -2)),
		", 1000000 -1000000" + zeros(23) + "\n":                                        perceptron(",", weights(0, 1000000, 1, -1000000)),
		"(" + zeros(25) + "\n)" + zeros(25) + "\n":                                     blank("()"),
		"+ 1 2 3" + zeros(22) + "\n1 4 -5 6" + zeros(22) + "\na" + zeros(24) + " 10\n": perceptron("+1a", weights(0, 1, 1, 2, 2, 3), weights(0, 4, 1, -5, 2, 6), weights(24, 10)),
		"a 1 2 3 4 5 6 7 8 9 10 11 12 13 14 15 16 17 18 19 20 21 22 23 24 25\n":        perceptron("a", row(1, 2, 3, 4, 5, 6, 7, 8, 9, 10, 11, 12, 13, 14, 15, 16, 17, 18, 19, 20, 21, 22, 23, 24, 25)),
	}
}

// noPerceptron asserts that a text is not the text of a perceptron.
func noPerceptron(t *testing.T, text string) {
	t.Helper()
	is(t, strconv.Quote(text), readPerceptron(text), all(impl.Perceptron{}, false))
}

func TestPerceptronText(t *testing.T) {
	for text, p := range textsOfPerceptrons() {
		is(t, strconv.Quote(text), impl.PerceptronText(p), text)
	}
	s := source(350)
	for _, p := range append(manyPerceptrons(&s), limitsPerceptron()) {
		is(t, "any perceptron", impl.PerceptronText(p), perceptronTextFor(p))
	}
	refusedPerceptrons(t, "PerceptronText", func(p impl.Perceptron) []any { return all(impl.PerceptronText(p)) }, all(""))
}

func TestReadPerceptron(t *testing.T) {
	for text, p := range textsOfPerceptrons() {
		is(t, strconv.Quote(text), readPerceptron(text), all(p, true))
	}
	s := source(351)
	for _, p := range append(manyPerceptrons(&s), limitsPerceptron(), plainPerceptron()) {
		text := perceptronTextFor(p)
		is(t, "any perceptron", readPerceptron(text), all(p, true))
		for _, part := range []string{text[1:], text[:len(text)-1], text + "\n", text + " ", "\n" + text, " " + text, text + text, text + text[:1], text + "\n" + text, text + "~" + zeros(25) + "\n"} {
			noPerceptron(t, part)
		}
	}
	for _, label := range eachOf(labelBytes) {
		is(t, "the label "+label, readPerceptron(label+zeros(25)+"\n"), all(blank(label), true))
	}
}

// TestReadPerceptronWeights has each weight of a range near 0 and near the limits.
func TestReadPerceptronWeights(t *testing.T) {
	for at := range 25 {
		for _, middle := range row(0, 100, 1000000, -1000000) {
			for n := middle - 3; n <= middle+3; n++ {
				text := "a" + zeros(at) + " " + strconv.FormatInt(n, 10) + zeros(24-at) + "\n"
				want := all(impl.Perceptron{}, false)
				if n >= -1000000 && n <= 1000000 {
					want = all(perceptron("a", weights(int64(at), n)), true)
				}
				is(t, text, readPerceptron(text), want)
			}
		}
	}
}

// TestTextsOfInvalidPerceptrons gives what would be the texts of perceptrons that are not valid.
func TestTextsOfInvalidPerceptrons(t *testing.T) {
	for name, p := range wrongPerceptrons() {
		if len(p.Labels) == len(p.Weights) {
			is(t, name, readPerceptron(perceptronTextFor(p)), all(impl.Perceptron{}, false))
		}
	}
}

// wrongWeightWords are no weights.
func wrongWeightWords() []string {
	return []string{
		"", " ", "-", "--1", "+", "+1", "+0", "-0", "00", "01", "007", "-01", "-00", "0 0", "0,0", "1,", ",1", ",", "1.0", "1.", ".5", "1e0", "0x1", "1_0", "0b1", "0o7", "a", "A", "none", "NaN", "1a", "a1", "1-", "1-1", "1+1", "(1)", "\"1\"",
		"1000001", "-1000001", "1000002", "10000000", "-10000000", "999999999999999999", "-999999999999999999", "1000000000000000000", "4294967296", "-4294967296", "4294967297",
		"9223372036854775807", "9223372036854775808", "-9223372036854775808", "-9223372036854775809", "18446744073709551616", "18446744073709551617", "-18446744073709551615", "340282366920938463463374607431768211456",
		strings.Repeat("0", 100), strings.Repeat("0", 100) + "1", strings.Repeat("1", 1000), "-" + strings.Repeat("9", 100),
		"\t1", "1\t", "1\r", "\v", "\f1", "\u00a01", "1\u00a0", "\u20031", "１", "٣", "²", "−1", "–1", "ä", "\x00", "1\x00", "\x001", "\xff", "1\xff", "\xff1", "\u200b1", "\ufeff1", "1\u0301",
	}
}

// wrongPerceptronLines are no lines of a perceptron; a label of them stands between a and c.
func wrongPerceptronLines() []string {
	lines := []string{
		"\n", " \n", "b\n", "b \n", "b" + zeros(1) + "\n", "b" + zeros(24) + "\n", "b" + zeros(26) + "\n", "b" + zeros(50) + "\n", zeros(25) + "\n", zeros(25)[1:] + "\n", zeros(26)[1:] + "\n",
		" b" + zeros(25) + "\n", "b " + zeros(25) + "\n", "b" + zeros(25) + " \n", "b" + zeros(12) + " " + zeros(13) + "\n", "b" + zeros(25) + "\n\n", "\nb" + zeros(25) + "\n", "b" + zeros(25), "b" + zeros(25) + "\r\n",
		"b" + zeros(12) + "\n" + zeros(13)[1:] + "\n", "b" + zeros(12) + "\n" + zeros(13) + "\n", "b\n" + zeros(25)[1:] + "\n", "b\t0" + zeros(24) + "\n", "b" + zeros(24) + "\t0\n", "b" + zeros(25) + "\t\n", "\tb" + zeros(25) + "\n",
		"b0" + zeros(24) + "\n", "b" + strings.Repeat(",0", 25) + "\n", "b " + strings.Repeat("0,", 24) + "0\n", "b:" + zeros(25) + "\n", "b b" + zeros(25) + "\n", "b" + zeros(25) + " b\n", "b b" + zeros(24) + "\n", "b" + zeros(24) + " b\n",
		"perceptron\n", "perceptron b" + zeros(25) + "\n", "label b" + zeros(25) + "\n", "0 b" + zeros(24) + "\n", zeros(25)[1:] + " b\n", "none\n", "\x00\n", "\xff\n", "# b\n", "b" + zeros(25) + "\x00\n", "b\x00" + zeros(25) + "\n", "bb" + zeros(25) + "\n",
		"a" + zeros(25) + "\n", "c" + zeros(25) + "\n", "d" + zeros(25) + "\n", "0" + zeros(25) + "\n", "B" + zeros(25) + "\n", "b" + zeros(25) + "\nb" + zeros(25) + "\n",
	}
	for _, label := range wrongLabels() {
		lines = append(lines, label+zeros(25)+"\n")
	}
	for _, word := range wrongWeightWords() {
		for _, at := range []int{0, 1, 12, 24} {
			lines = append(lines, "b"+zeros(at)+" "+word+zeros(24-at)+"\n")
		}
	}
	return lines
}

// TestReadPerceptronLines gives a line that is not right instead of each line of a right text, and between them.
func TestReadPerceptronLines(t *testing.T) {
	one, two, three := "a"+zeros(25)+"\n", "b"+zeros(25)+"\n", "c"+zeros(25)+"\n"
	is(t, "the right text", readPerceptron(one+two+three), all(blank("abc"), true))
	for _, line := range wrongPerceptronLines() {
		noPerceptron(t, one+line+three)
	}
	for _, line := range wrongPerceptronLines() {
		// Some of them would be right alone, or as the first or the last one.
		if _, ok := impl.ReadPerceptron(line); ok {
			continue
		}
		for _, text := range []string{line, one + line, line + three, one + two + line, line + two + three} {
			noPerceptron(t, text)
		}
	}
	for _, text := range []string{"", "\n", "\n\n", " ", " \n", "a", "a\n", "a \n", "\x00", "\xff", one[:len(one)-1], one + two[:len(two)-1], one + "\n" + two, one + two + "\n", "\n" + one, strings.ReplaceAll(one+two, "\n", ""), strings.ReplaceAll(one+two, "\n", " ")} {
		noPerceptron(t, text)
	}
}

// TestReadPerceptronOrder gives the lines of a right text in all orders, and some of them twice.
func TestReadPerceptronOrder(t *testing.T) {
	lines := map[rune]string{'(': "( 5" + zeros(24) + "\n", '0': "0 6" + zeros(24) + "\n", 'a': "a 7" + zeros(24) + "\n"}
	rows := map[rune][]int64{'(': weights(0, 5), '0': weights(0, 6), 'a': weights(0, 7)}
	for _, order := range []string{"", "(", "0", "a", "(0", "(a", "0a", "0(", "a(", "a0", "((", "00", "aa", "(0a", "(a0", "0(a", "0a(", "a(0", "a0(", "((0", "(00", "(0a(", "(0aa", "((0a", "(00a", "(0(a"} {
		text, p, rising := "", impl.Perceptron{}, order != ""
		for at, label := range order {
			text += lines[label]
			p.Labels, p.Weights = append(p.Labels, string(label)), append(p.Weights, rows[label])
			rising = rising && (at == 0 || order[at-1] < order[at])
		}
		want := all(impl.Perceptron{}, false)
		if rising {
			want = all(p, true)
		}
		is(t, strconv.Quote(order), readPerceptron(text), want)
	}
}

func TestReadPerceptronLimits(t *testing.T) {
	for count := range len(labelBytes) + 1 {
		text := ""
		for _, label := range eachOf(labelBytes[:count]) {
			text += label + zeros(25) + "\n"
		}
		want := all(impl.Perceptron{}, false)
		if count >= 1 && count <= 12 {
			want = all(blank(labelBytes[:count]), true)
		}
		is(t, fmt.Sprint(count, " labels"), readPerceptron(text), want)
	}
	for count := range 60 {
		want := all(impl.Perceptron{}, false)
		if count == 25 {
			want = all(blank("a"), true)
		}
		is(t, fmt.Sprint(count, " weights"), readPerceptron("a"+zeros(count)+"\n"), want)
	}
	one := "a" + zeros(25) + "\n"
	for _, long := range []string{strings.Repeat("\n", 1<<18), strings.Repeat(" ", 1<<18), strings.Repeat(one, 1<<12), strings.Repeat("\xff", 1<<18), strings.Repeat("1", 1<<18), strings.Repeat(" 0", 1<<17), strings.Repeat("-", 1<<18)} {
		for _, begin := range []string{"", "a", "a ", "a" + zeros(24), "a" + zeros(25), one} {
			for _, end := range []string{"", "\n", "b" + zeros(25) + "\n"} {
				p, ok := impl.ReadPerceptron(begin + long + end)
				is(t, "a long text", all(p, ok), all(impl.Perceptron{}, false))
			}
		}
	}
}

// TestReadPerceptronWithOneByteChanged takes away, doubles, inserts and replaces bytes; what is read all the same has that text.
func TestReadPerceptronWithOneByteChanged(t *testing.T) {
	text := "+ 0 10 -9 1000000 -1000000" + zeros(20) + "\na" + zeros(23) + " 7 -80\n"
	read := 0
	try := func(text string) {
		p, ok := impl.ReadPerceptron(text)
		if !ok {
			is(t, "not read: "+strconv.Quote(text), p, impl.Perceptron{})
			return
		}
		read++
		is(t, "read: "+strconv.Quote(text), all(perceptronTextFor(p), impl.ValidPerceptron(p)), all(text, true))
	}
	for k := range len(text) {
		before, at, behind := text[:k], text[k:k+1], text[k+1:]
		try(before + behind)
		try(before)
		try(behind)
		for b := range 256 {
			other := string([]byte{byte(b)})
			try(before + other + at + behind)
			try(before + other + behind)
		}
		for _, other := range []string{"  ", " 0", "0 ", "\u00a0", "１", "-0", "00", "+1", "\n\n", "\r\n", " \n", "\n ", "\n+", "\nz "} {
			try(before + other + at + behind)
			try(before + other + behind)
		}
	}
	is(t, "some are read", read > 100, true)
}

// TestPerceptronTextBackAndForth changes one weight after the other.
func TestPerceptronTextBackAndForth(t *testing.T) {
	p := limitsPerceptron()
	text := impl.PerceptronText(p)
	for at := range p.Weights {
		for k := range p.Weights[at] {
			other := deepCopy(p)
			other.Weights[at][k] = -other.Weights[at][k] / 3
			changed := impl.PerceptronText(other)
			is(t, "back", readPerceptron(changed), all(other, true))
			is(t, "another text", changed == text, slices.Equal(other.Weights[at], p.Weights[at]))
		}
	}
	is(t, "back", readPerceptron(text), all(p, true))
}
