package tests

import (
	"slices"
	"strconv"
	"strings"
	"testing"

	"loop.example/g00918/impl"
)

// textsOfFeats are features and their texts.
func textsOfFeats() map[string][]impl.Feat {
	return map[string][]impl.Feat{
		"0,127,0 255,127,0":         feats(0, 127, 0, 255, 127, 0),
		"0,0,0":                     feats(0, 0, 0),
		"255,255,7":                 feats(255, 255, 7),
		"1,2,3":                     feats(1, 2, 3),
		"10,200,5 6,70,1 8,9,0":     feats(10, 200, 5, 6, 70, 1, 8, 9, 0),
		"7,7,7 7,7,7":               feats(7, 7, 7, 7, 7, 7),
		"0,255,4 100,0,6 255,100,2": feats(0, 255, 4, 100, 0, 6, 255, 100, 2),
	}
}

func TestFeatsText(t *testing.T) {
	for text, list := range textsOfFeats() {
		is(t, text, impl.FeatsText(list), text)
	}
	is(t, "the most", impl.FeatsText(slices.Repeat(feats(1, 20, 3), impl.MaxFeatList)), strings.Repeat("1,20,3 ", impl.MaxFeatList-1)+"1,20,3")
	s := source(127)
	for _, list := range manyFeats(&s) {
		is(t, "any features", impl.FeatsText(list), textOf(list))
	}
	for name, list := range wrongFeatLists() {
		is(t, name, impl.FeatsText(list), "")
	}
}

func TestReadFeats(t *testing.T) {
	for text, want := range textsOfFeats() {
		is(t, text, readFeats(text), all(want, true))
	}
	for x := range int64(impl.NormSide + 1) {
		want := feats(x, 255-x, x%8)
		is(t, "one feature", readFeats(textOf(want)), all(want, true))
	}
}

// readFeats returns both results of ReadFeats.
func readFeats(text string) []any {
	list, ok := impl.ReadFeats(text)
	return all(list, ok)
}

// noFeats asserts that a text is not the text of features.
func noFeats(t *testing.T, text string) {
	t.Helper()
	is(t, strconv.Quote(text), readFeats(text), all([]impl.Feat{}, false))
}

// wrongFeatWords are nearly texts of a feature.
func wrongFeatWords() []string {
	return []string{
		"1", "1,2", "1,2,3,4", "1,2,3,4,5,6", ",", ",,", ",,,", ",2,3", "1,,3", "1,2,", "1,2,3,", ",1,2,3", "1,,2,3", "1,2,,3", ",,1,2,3", "123", "none",
		"01,2,3", "1,02,3", "1,2,03", "00,2,3", "1,00,3", "1,2,00", "0255,2,3", "1,2,007",
		"+1,2,3", "1,+2,3", "1,2,+3", "-0,2,3", "1,-0,3", "1,2,-0", "-1,2,3", "1,-2,3", "1,2,-3", "--1,2,3", "-,2,3", "1,-,3", "1,2,-", "+,2,3",
		"256,2,3", "1,256,3", "1,2,8", "1,2,9", "1,2,10", "1,2,255", "1000,2,3", "1,1000,3", "4095,4095,7",
		"18446744073709551617,2,3", "1,18446744073709551618,3", "1,2,18446744073709551619", "9223372036854775807,2,3", "1,2,9223372036854775808",
		"1000000000000000000,2,3", "999999999999999999,2,3", "-9223372036854775808,2,3", "1,2," + strings.Repeat("0", 100) + "3", strings.Repeat("1", 1000) + ",2,3",
		"a,2,3", "1,b,3", "1,2,c", "1,2,3x", "x1,2,3", "1a,2,3", "0x1,2,3", "1e1,2,3", "1_0,2,3", "1.0,2,3", "1,2.,3", "0b1,2,3", "1,2,0o3", "1,2,NaN",
		"1;2;3", "1.2.3", "1:2:3", "1/2/3", "1-2-3", "(1,2,3)", "{1,2,3}", "[1,2,3]", "\"1,2,3\"", "1,2,3;", "1,2,3.",
		"１,2,3", "1,２,3", "1,2,３", "1，2，3", "٣,2,3", "²,2,3", "ä", "é,2,3", "1,2,3\u0301", "\ufeff1,2,3", "1,2,3\ufeff", "\u200b1,2,3",
		"\x00", "1,2,3\x00", "\x001,2,3", "1,\x00,3", "\xff", "1,2,\xff", "\xff1,2,3", "1,2,3\x80", "1\xc3,2,3", "\xed\xa0\x80,2,3",
	}
}

func TestReadFeatsWrongWords(t *testing.T) {
	for _, word := range wrongFeatWords() {
		noFeats(t, word)
		noFeats(t, word+" 4,5,6")
		noFeats(t, "4,5,6 "+word)
		noFeats(t, "4,5,6 "+word+" 7,8,1")
	}
}

func TestReadFeatsWrongTexts(t *testing.T) {
	for _, text := range []string{
		"", " ", "  ", "\n", "\t", " \n ", "1,2,3 ", " 1,2,3", " 1,2,3 ", "1,2,3  4,5,6", "1,2,3   4,5,6", "1,2,3 4,5,6 ", " 1,2,3 4,5,6", "1,2,3 4,5,6  7,8,1",
		"1, 2,3", "1 ,2,3", "1,2 ,3", "1,2, 3", "1 2 3", "1,2 3", "1, 2, 3", "1,2,3 ,4,5,6", "1,2,3, 4,5,6", "1,2,3,4,5,6", "1,2,3,4,5,6,7,0,1", "1,2,34,5,6",
		"1,2,3\n", "1,2,3\n4,5,6", "\n1,2,3", "1,2,3\r\n", "1,2,3\t4,5,6", "\t1,2,3", "1,2,3\t", "1,2,3\r4,5,6", "1,2,3\v4,5,6", "1,2,3\f4,5,6", "1,2,3\v", "\f1,2,3",
		"1,2,3\u00a04,5,6", "1,2,3\u00854,5,6", "1,2,3\u20284,5,6", "1,2,3\u30004,5,6", "1,2,3\u2003", "\u00a01,2,3", "1,2,3\u0085", "1,2,3\xa04,5,6", "1,2,3\x854,5,6",
		"1,2,3\x004,5,6", "1,2,3 \x00", "\x00 1,2,3", "1,2,3 \xff 4,5,6", "1,2,3_4,5,6", "1,2,3;4,5,6", "1,2,3|4,5,6", "none", "1,2,3 none", "features 1,2,3",
	} {
		noFeats(t, text)
	}
}

func TestReadFeatsLimits(t *testing.T) {
	word := "255,0,7"
	for _, count := range []int{1, 2, impl.MaxFeatList - 1, impl.MaxFeatList} {
		text := strings.Repeat(word+" ", count-1) + word
		is(t, "so many", readFeats(text), all(slices.Repeat(feats(255, 0, 7), count), true))
		noFeats(t, text+" ")
		noFeats(t, " "+text)
	}
	for _, count := range []int{impl.MaxFeatList + 1, impl.MaxFeatList + 2, 2 * impl.MaxFeatList, 20000} {
		noFeats(t, strings.Repeat(word+" ", count-1)+word)
	}
	for _, text := range []string{strings.Repeat(" ", 1<<20), strings.Repeat(",", 1<<20), strings.Repeat("1", 1<<20), strings.Repeat("1,", 1<<19), strings.Repeat("\xff", 1<<20), word + strings.Repeat(" ", 1<<20) + word} {
		list, ok := impl.ReadFeats(text)
		is(t, "a long text", all(list, ok), all([]impl.Feat{}, false))
	}
}

// TestReadFeatsWithOneByteChanged takes away, doubles, inserts and replaces bytes; what is read all the same has that text.
func TestReadFeatsWithOneByteChanged(t *testing.T) {
	const text = "0,127,0 255,10,7 34,5,6"
	read := 0
	try := func(text string) {
		list, ok := impl.ReadFeats(text)
		if !ok {
			is(t, "not read: "+strconv.Quote(text), list, []impl.Feat{})
			return
		}
		read++
		is(t, "read: "+strconv.Quote(text), all(textOf(list), impl.ValidFeats(list)), all(text, true))
	}
	for k := range len(text) {
		before, at, behind := text[:k], text[k:k+1], text[k+1:]
		try(before + behind)
		try(before)
		try(behind)
		for b := range 256 {
			other := string([]byte{byte(b)})
			try(before + other + at + behind)
			try(before + other + behind)
		}
		for _, other := range []string{"  ", ",,", " ,", ", ", "\u00a0", "１", "-0", "00", "+1"} {
			try(before + other + at + behind)
			try(before + other + behind)
		}
	}
	is(t, "some are read", read > 100, true)
}
