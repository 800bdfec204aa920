package tests

import (
	"strconv"
	"strings"
	"testing"

	"loop.example/g00918/impl"
)

// textsOfHyps are hypotheses and their texts.
func textsOfHyps() map[string][]impl.Hyp {
	return map[string][]impl.Hyp{
		"none":                  nil,
		"a:0":                   hyps("a", 0),
		"a:12 b:40":             hyps("ab", 12, 40),
		"b:12 a:40":             hyps("ba", 12, 40),
		"a:7 b:7":               hyps("ab", 7, 7),
		"(:0 ):0":               hyps("()", 0, 0),
		"-:1 +:2 =:3":           hyps("-+=", 1, 2, 3),
		",:5 .:5 /:6":           hyps(",./", 5, 5, 6),
		"0:0 1:1 2:22":          hyps("012", 0, 1, 22),
		"9:999999 n:1000000":    hyps("9n", 999999, 1000000),
		"n:1 o:2 e:3":           hyps("noe", 1, 2, 3),
		"z:9 a:10":              hyps("za", 9, 10),
		"h:100 g:200 f:1000000": hyps("hgf", 100, 200, 1000000),
		"a:0 -:1 0:1 (:12 z:12 =:40 .:999999 b:1000000": mostHyps(),
		"a:5 b:5 c:5 d:5 e:5 f:5 g:5 h:5":               hyps("abcdefgh", 5, 5, 5, 5, 5, 5, 5, 5),
		"h:1 g:20 f:300 e:4000 d:50000 c:600000":        hyps("hgfedc", 1, 20, 300, 4000, 50000, 600000),
	}
}

// noHyps asserts that a text is not the text of hypotheses.
func noHyps(t *testing.T, text string) {
	t.Helper()
	is(t, strconv.Quote(text), readHyps(text), all([]impl.Hyp{}, false))
}

func TestHypsText(t *testing.T) {
	for text, list := range textsOfHyps() {
		is(t, strconv.Quote(text), impl.HypsText(list), text)
	}
	is(t, "empty", impl.HypsText([]impl.Hyp{}), "none")
	s := source(390)
	for _, list := range manyHyps(&s) {
		is(t, "any hypotheses", impl.HypsText(list), hypsTextFor(list))
	}
	refusedHyps(t, "HypsText", func(list []impl.Hyp) []any { return all(impl.HypsText(list)) }, all(""))
}

func TestReadHyps(t *testing.T) {
	for text, list := range textsOfHyps() {
		is(t, strconv.Quote(text), readHyps(text), all(list, true))
	}
	s := source(391)
	for _, list := range manyHyps(&s) {
		text := hypsTextFor(list)
		is(t, "any hypotheses", readHyps(text), all(list, true))
		for _, other := range []string{text + " ", " " + text, text + "\n", text + " " + text, text + text, text + " none", "none " + text, text + ":", ":" + text, text + " :", text + " a", text + " a:", text + " :5", text + "x", text + "\x00"} {
			noHyps(t, other)
		}
	}
	for _, label := range eachOf(labelBytes) {
		is(t, "the label "+label, readHyps(label+":5"), all(hyps(label, 5), true))
	}
}

// TestReadHypsCosts has each cost of a range near 0, near numbers with more digits, and near the greatest one.
func TestReadHypsCosts(t *testing.T) {
	for _, middle := range row(0, 10, 100, 99999, 1000000, 10000000, -100, -1000000) {
		for cost := middle - 3; cost <= middle+3; cost++ {
			want := all([]impl.Hyp{}, false)
			if cost >= 0 && cost <= 1000000 {
				want = all(hyps("a", cost), true)
			}
			is(t, impl.Decimal(cost), readHyps("a:"+strconv.FormatInt(cost, 10)), want)
		}
	}
}

// TestTextsOfInvalidHyps gives what would be the texts of lists that are no hypotheses.
func TestTextsOfInvalidHyps(t *testing.T) {
	for _, list := range wrongHyps() {
		noHyps(t, hypsTextFor(list))
	}
}

// wrongHypWords are no words of a text of hypotheses.
func wrongHypWords() []string {
	words := []string{
		"", ":", "::", "b", "5", "b:", ":5", "b5", "b:5:", ":b:5", "b::5", "b:5:5", "b:5:c", "b:5:c:6", "b:5c:6", "b:5,c:6", "b:5;c:6", "bb:5", "b b:5", "b :5", "b: 5", "b:5 5", "b:b", "5:b", "b:5b", "b:b5", "b=5", "b-5", "b,5", "b;5", "b：5", "b.5",
		"none", "None", "NONE", "none:5", "b:none", "nil", "[]", "{b 5}", "\"b\":5", "'b':5", "(b:5)", "b:(5)", "B:5", "ä:5", "é:5", "٣:5", "ｂ:5", "b:５", "b:٣", "b:5\n", "\nb:5", "b\n:5", "b:\n5", "b:5\r", "b:5\t", "\tb:5", "b\t:5", "b:\t5", "b:5\v", "b:5\f",
		"b:\u00a05", "\u00a0b:5", "b:5\u00a0", "b:5\u2003", "\ufeffb:5", "b:5\u200b", "\x00", "\x00:5", "b:\x00", "b:5\x00", "b\x00:5", "\xff:5", "b:\xff", "b:5\xff", "!:5", "~:5", "_:5", "%:5", "::5", " :5", "?:5",
	}
	for _, label := range wrongLabels() {
		words = append(words, label+":5")
	}
	for _, number := range wrongWeightWords() {
		words = append(words, "b:"+number)
	}
	for _, number := range []string{"-1", "-5", "-9", "-10", "-999999", "-1000000", "+5", "05", "005", "-05", "0005", "1000001", "1000002"} {
		words = append(words, "b:"+number)
	}
	return words
}

// TestReadHypsWords gives a word that is not right alone, and instead of each word of a right text.
func TestReadHypsWords(t *testing.T) {
	const one, two, three = "a:0", "b:5", "c:1000000"
	is(t, "the right text", readHyps(one+" "+two+" "+three), all(hyps("abc", 0, 5, 1000000), true))
	for _, word := range wrongHypWords() {
		for _, text := range []string{one + " " + word + " " + three, one + " " + word, word + " " + three, word + " " + two + " " + three, one + " " + two + " " + word, one + " " + two + " " + three + " " + word} {
			noHyps(t, text)
		}
		if word != "none" {
			noHyps(t, word)
		}
	}
}

// TestReadHypsOrder gives the words of a right text in all orders, and some of them twice.
func TestReadHypsOrder(t *testing.T) {
	words := []string{"a:5", "b:5", "(:6", "a:6"}
	list := []impl.Hyp{hyp("a", 5), hyp("b", 5), hyp("(", 6), hyp("a", 6)}
	right := 0
	for _, made := range allHyps(4, list...) {
		if len(made) == 0 {
			continue
		}
		var parts []string
		for _, h := range made {
			for at := range list {
				if list[at] == h {
					parts = append(parts, words[at])
				}
			}
		}
		want := all([]impl.Hyp{}, false)
		if areHyps(made) {
			want, right = all(made, true), right+1
		}
		is(t, strings.Join(parts, " "), readHyps(strings.Join(parts, " ")), want)
	}
	is(t, "right ones", right, len([]string{"a5", "b5", "(6", "a6", "a5 b5", "a5 (6", "b5 (6", "b5 a6", "(6 a6", "a5 b5 (6", "b5 (6 a6"}))
}

func TestReadHypsWithoutWords(t *testing.T) {
	for _, text := range []string{
		"", " ", "  ", "\n", "\t", "\x00", "\xff", "none ", " none", "none\n", "\nnone", "none none", "none:", "none:0", "non", "nones", "one", "None", "NONE", "nonea:5", "a:5none", "none a:5", "a:5 none", "a:5 none b:6",
		"none\x00", "n:o n:e", "nil", "0", "a", "a b", "a:5  b:6", "a:5   b:6", " a:5 b:6", "a:5 b:6 ", "a:5\nb:6", "a:5 b:6\n", "a:5\tb:6", "a:5,b:6", "a:5b:6", "a:5 :6", "a:5 b6", "a5 b:6", "a: b:6", "a:5 b:", "a:5:b:6", "a b:5",
	} {
		noHyps(t, text)
	}
}

func TestReadHypsLimits(t *testing.T) {
	for count := 1; count <= len(labelBytes); count++ {
		list := hyps(labelBytes, make([]int64, count)...)
		want := all([]impl.Hyp{}, false)
		if count <= 8 {
			want = all(list, true)
		}
		is(t, strconv.Itoa(count), readHyps(hypsTextFor(list)), want)
	}
	for _, long := range []string{strings.Repeat(" ", 1<<18), strings.Repeat("a:5 ", 1<<16), strings.Repeat(":", 1<<18), strings.Repeat("a", 1<<18), strings.Repeat("0", 1<<18), strings.Repeat("5", 1<<18), strings.Repeat("none ", 1<<16), strings.Repeat("\n", 1<<18), strings.Repeat("\xff", 1<<18)} {
		for _, begin := range []string{"", "a", "a:", "a:5", "a:5 ", "a:5 b:", "none", "none "} {
			for _, end := range []string{"", "b:6", " b:6", ":6", "none"} {
				list, ok := impl.ReadHyps(begin + long + end)
				is(t, "a long text", all(list, ok), all([]impl.Hyp{}, false))
			}
		}
	}
}

// TestReadHypsWithOneByteChanged takes away, doubles, inserts and replaces bytes; what is read all the same has that text.
func TestReadHypsWithOneByteChanged(t *testing.T) {
	read := 0
	try := func(text string) {
		list, ok := impl.ReadHyps(text)
		if !ok {
			is(t, "not read: "+strconv.Quote(text), list, []impl.Hyp{})
			return
		}
		read++
		is(t, "read: "+strconv.Quote(text), all(hypsTextFor(list), areHyps(list)), all(text, true))
	}
	for _, text := range []string{"a:5", "a:12 b:40", "+:0 z:90 =:700 4:999990", hypsTextFor(mostHyps()), "none", "none:1 a:5"} {
		for k := range len(text) {
			before, at, behind := text[:k], text[k:k+1], text[k+1:]
			try(before + behind)
			try(before)
			try(behind)
			for b := range 256 {
				other := string([]byte{byte(b)})
				try(before + other + at + behind)
				try(before + other + behind)
			}
			for _, other := range []string{"  ", "::", ":0", "0:", " :", ": ", "\u00a0", "１", "-0", "00", "+1", " z:1000000", " none"} {
				try(before + other + at + behind)
				try(before + other + behind)
			}
		}
	}
	is(t, "some are read", read > 300, true)
}
