package tests

import (
	"slices"
	"strconv"
	"strings"
	"testing"

	"loop.example/g00918/impl"
)

// textsOfStores are stores and their texts.
func textsOfStores() map[string]impl.Store {
	return map[string]impl.Store{
		"store 0\n":                         {},
		"store 1\n":                         store(1),
		"store 72\n":                        store(72),
		"store 2\ntemplate a 0,0,1 9,9,1\n": store(2, template("a", feats(0, 0, 1, 9, 9, 1))),
		"store 10\ntemplate z 255,255,7\n":  store(10, template("z", feats(255, 255, 7))),
		"store 0\ntemplate - 0,0,0\n":       store(0, template("-", feats(0, 0, 0))),
		"store 0\ntemplate , 1,2,3\n":       store(0, template(",", feats(1, 2, 3))),
		"store 3\ntemplate 0 1,2,3\n":       store(3, template("0", feats(1, 2, 3))),
		"store 7\ntemplate b 3,0,0\ntemplate a 3,0,0\ntemplate b 3,0,0\n":                                          labelled(7, "bab", line(3), line(3), line(3)),
		"store 2\ntemplate a 0,0,1 9,9,1\ntemplate b 1,2,3\ntemplate a 7,8,0 4,5,6 255,254,7\n":                    plainStore(),
		"store 5\ntemplate = 10,20,1\ntemplate ( 1,200,5 6,70,1\ntemplate . 0,0,0\ntemplate + 1,2,3 1,2,3 1,2,3\n": labelled(5, "=(.+", feats(10, 20, 1), feats(1, 200, 5, 6, 70, 1), feats(0, 0, 0), feats(1, 2, 3, 1, 2, 3, 1, 2, 3)),
	}
}

// readStore returns both results of ReadStore.
func readStore(text string) []any {
	s, ok := impl.ReadStore(text)
	return all(s, ok)
}

// noStore asserts that a text is not the text of a store.
func noStore(t *testing.T, text string) {
	t.Helper()
	is(t, strconv.Quote(text), readStore(text), all(impl.Store{}, false))
}

func TestStoreText(t *testing.T) {
	for text, s := range textsOfStores() {
		is(t, strconv.Quote(text), impl.StoreText(s), text)
	}
	s := source(270)
	for _, right := range manyStores(&s) {
		is(t, "any store", impl.StoreText(right), storeTextFor(right))
	}
	refusedStores(t, "StoreText", func(s impl.Store) []any { return all(impl.StoreText(s)) }, all(""))
}

func TestReadStore(t *testing.T) {
	for text, want := range textsOfStores() {
		is(t, strconv.Quote(text), readStore(text), all(want, true))
	}
	for _, label := range eachOf(labelBytes) {
		is(t, "the label "+label, readStore("store 1\ntemplate "+label+" 1,2,3\n"), all(store(1, template(label, feats(1, 2, 3))), true))
	}
	for band := range int64(impl.MaxSeq + 1) {
		text := "store " + impl.Decimal(band) + "\n"
		is(t, text, readStore(text), all(store(band), true))
	}
}

// TestTextsOfInvalidStores gives what would be the texts of stores that are not valid.
func TestTextsOfInvalidStores(t *testing.T) {
	refusedStores(t, "ReadStore", func(s impl.Store) []any { return readStore(storeTextFor(s)) }, all(impl.Store{}, false))
}

func wrongStoreLines() []string {
	return []string{
		"store\n", "store \n", "store  2\n", " store 2\n", "store 2 \n", "store 2 3\n", "store2\n", "store 2\n\n", "store 2\r\n", "store\t2\n", "store 2\t\n", "store\n2\n", "store 2,\n", "store ,2\n",
		"Store 2\n", "STORE 2\n", "stores 2\n", "stor 2\n", "xstore 2\n", "template 2\n", "2\n", "2 store\n", "lattice 2\n", "\ufeffstore 2\n", "\nstore 2\n", "store 2\x00\n", "\x00store 2\n", "store\u00a02\n", "store \xff2\n",
		"store 02\n", "store 00\n", "store +2\n", "store -0\n", "store -1\n", "store -2\n", "store 2.0\n", "store 2e0\n", "store 0x2\n", "store 2_0\n", "store ２\n", "store a\n", "store -\n", "store --2\n",
		"store 73\n", "store 74\n", "store 100\n", "store 4294967298\n", "store 18446744073709551618\n", "store 9223372036854775807\n", "store 9223372036854775808\n", "store -9223372036854775808\n",
		"store 1000000000000000000\n", "store 999999999999999999\n", "store " + strings.Repeat("0", 100) + "2\n", "store 2\nstore 2\n", "store 2\nstore 3\n",
	}
}

func wrongTemplateLines() []string {
	lines := []string{
		"\n", " \n", "template\n", "template \n", "template a\n", "template a \n", "template  1,2,3\n", "template 1,2,3\n", "template 1,2,3 4,5,6\n", "a 1,2,3\n", "1,2,3\n",
		" template a 1,2,3\n", "template  a 1,2,3\n", "template a  1,2,3\n", "template a 1,2,3 \n", "template a 1,2,3  4,5,6\n", "template a 1,2,3 4,5,6 \n", "template a 1,2,3\n\n", "template a 1,2,3\r\n", "template a 1,2,3",
		"template\ta 1,2,3\n", "template a\t1,2,3\n", "template a 1,2,3\t4,5,6\n", "template a 1,2,3\t\n", "template\na 1,2,3\n", "template a\n1,2,3\n", "template a 1,2,3\n4,5,6\n", "templatea 1,2,3\n", "template a1,2,3\n",
		"Template a 1,2,3\n", "TEMPLATE a 1,2,3\n", "templates a 1,2,3\n", "templat a 1,2,3\n", "xtemplate a 1,2,3\n", "store a 1,2,3\n", "template b a 1,2,3\n", "template a b 1,2,3\n", "template a a\n", "template a 1,2,3 a\n", "template a a 1,2,3\n", "template 1,2,3 a\n",
		"template a 1,2,3 none\n", "template a none\n", "template a:1,2,3\n", "template a,1,2,3\n", "template a 1,2,3,4,5,6\n", "template a 1, 2,3\n", "template a 1 2 3\n", "template a 1,2,3 ,\n", "template a , 1,2,3\n", "\x00\n", "\xff\n", "# a\n",
		"template a \u00a01,2,3\n", "template a 1,2,3\u00a04,5,6\n", "template a 1,2,3\u00854,5,6\n", "template a 1,2,3\v4,5,6\n", "template a 1,2,3\f\n", "template a \x00\n",
	}
	for _, label := range wrongLabels() {
		lines = append(lines, "template "+label+" 1,2,3\n")
	}
	for _, word := range wrongFeatWords() {
		lines = append(lines, "template a "+word+"\n", "template a 1,2,3 "+word+"\n", "template a "+word+" 1,2,3\n")
	}
	return lines
}

func TestReadStoreWithoutLines(t *testing.T) {
	for _, text := range []string{
		"", "\n", "\n\n", " ", " \n", "\t", "\x00", "\xff\n", "store", "store\n", "store 2", "template a 1,2,3\n", "template a 1,2,3", "template\n", "none", "none\n", "store 2\ntemplate a 1,2,3", "store 2 template a 1,2,3\n",
	} {
		noStore(t, text)
	}
}

// TestReadStoreLines gives a line instead of each line of a right text; the line itself is not right.
func TestReadStoreLines(t *testing.T) {
	const one, two, three = "store 2\n", "template a 0,0,1 9,9,1\n", "template b 1,2,3\n"
	is(t, "the right text", readStore(one + two + three)[1], true)
	for _, line := range wrongStoreLines() {
		noStore(t, line)
		noStore(t, line+two+three)
	}
	for _, line := range wrongTemplateLines() {
		noStore(t, line)
		noStore(t, one+line)
		noStore(t, one+line+two+three)
		noStore(t, one+two+line+three)
		noStore(t, one+two+three+line)
	}
}

// TestReadStoreLineOrder gives the lines of a right text in another order, or several times.
func TestReadStoreLineOrder(t *testing.T) {
	const one, two, three = "store 2\n", "template a 0,0,1 9,9,1\n", "template b 1,2,3\n"
	first, last := template("a", feats(0, 0, 1, 9, 9, 1)), template("b", feats(1, 2, 3))
	is(t, "the templates exchanged", readStore(one+three+two), all(store(2, last, first), true))
	is(t, "a template twice", readStore(one+two+two), all(store(2, first, first), true))
	for _, text := range []string{
		two, three, two + three, two + one, three + one, two + one + three, two + three + one, one + one, one + one + two, one + two + one, one + two + one + three,
		one + two + three + one, one + "\n" + two, one + two + "\n" + three, one + two + three + "\n", "\n" + one + two,
	} {
		noStore(t, text)
	}
}

func TestReadStoreLimits(t *testing.T) {
	word := "255,0,7"
	line := func(count int) string { return "template a " + strings.Repeat(word+" ", count-1) + word + "\n" }
	for _, count := range []int{1, 2, impl.MaxSeq - 1, impl.MaxSeq} {
		want := store(72, template("a", level(count, feat(255, 0, 7))))
		is(t, "so many features", readStore("store 72\n"+line(count)), all(want, true))
	}
	for _, count := range []int{impl.MaxSeq + 1, impl.MaxSeq + 2, impl.MaxFeatList, impl.MaxFeatList + 1, 20000} {
		noStore(t, "store 72\n"+line(count))
		noStore(t, "store 72\n"+line(1)+line(count)+line(1))
	}
	for _, count := range []int{0, 1, 2, impl.MaxTemplates - 1, impl.MaxTemplates} {
		want := store(72, slices.Repeat([]impl.Template{template("a", level(72, feat(255, 0, 7)))}, count)...)
		is(t, "so many templates", readStore("store 72\n"+strings.Repeat(line(72), count)), all(want, true))
	}
	for _, count := range []int{impl.MaxTemplates + 1, impl.MaxTemplates + 2, 400, 20000} {
		noStore(t, "store 72\n"+strings.Repeat(line(1), count))
	}
	noStore(t, "store 72\n"+strings.Repeat(line(72), impl.MaxTemplates+1))
	for _, far := range []string{strings.Repeat("\n", 1<<20), strings.Repeat(" ", 1<<20), strings.Repeat(",", 1<<20), strings.Repeat("store 2\n", 1<<16), strings.Repeat("\xff", 1<<20), strings.Repeat("1", 1<<20)} {
		for _, begin := range []string{"", "store ", "store 2", "store 2\n", "store 2\ntemplate", "store 2\ntemplate a ", "store 2\ntemplate a 1,2,3", "store 2\ntemplate a 1,2,3\n"} {
			for _, end := range []string{"", "\n", "template a 1,2,3\n"} {
				s, ok := impl.ReadStore(begin + far + end)
				is(t, "a long text", all(s, ok), all(impl.Store{}, false))
			}
		}
	}
}

// TestReadStoreWithOneByteChanged takes away, doubles, inserts and replaces bytes; what is read all the same has that text.
func TestReadStoreWithOneByteChanged(t *testing.T) {
	const text = "store 2\ntemplate a 0,127,0 9,10,7\ntemplate - 34,5,6\n"
	read := 0
	try := func(text string) {
		s, ok := impl.ReadStore(text)
		if !ok {
			is(t, "not read: "+strconv.Quote(text), s, impl.Store{})
			return
		}
		read++
		is(t, "read: "+strconv.Quote(text), all(storeTextFor(s), impl.ValidStore(s)), all(text, true))
	}
	for k := range len(text) {
		before, at, behind := text[:k], text[k:k+1], text[k+1:]
		try(before + behind)
		try(before)
		try(behind)
		for b := range 256 {
			other := string([]byte{byte(b)})
			try(before + other + at + behind)
			try(before + other + behind)
		}
		for _, other := range []string{"  ", ",,", " ,", ", ", "\u00a0", "１", "-0", "00", "+1", "\n\n", "\r\n", " \n", "\n ", "\ntemplate ", "\nstore "} {
			try(before + other + at + behind)
			try(before + other + behind)
		}
	}
	is(t, "some are read", read > 100, true)
}
