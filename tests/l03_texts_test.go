package tests

import (
	"strconv"
	"strings"
	"testing"

	"loop.example/g00918/impl"
)

// textsOfFiles are files and their texts.
func textsOfFiles() map[string]impl.File {
	whole := channel("v", "dot", -impl.MaxValue, impl.MaxValue)
	return map[string]impl.File{
		plainText:                                plainFile(),
		"channel v dot -1000000000 1000000000\n": {Channels: []impl.Channel{whole}},
		"channel v dot -1000000000 1000000000\nstroke -1000000000 0 1000000000\n": {
			Channels: []impl.Channel{whole}, Strokes: []impl.Rows{rows(row(-impl.MaxValue), row(0), row(impl.MaxValue))},
		},
		"channel v dot -1000000000 1000000000\nstroke 5\nstroke 4\nnote 0 2 pen-3\n": {
			Channels: []impl.Channel{whole}, Strokes: []impl.Rows{rows(row(5)), rows(row(4))}, Notes: []impl.Note{note(0, 2, "pen-3")},
		},
		"channel a b -2 -1\nchannel b a 0 1\nstroke -1,0 -2,1\n": {
			Channels: []impl.Channel{channel("a", "b", -2, -1), channel("b", "a", 0, 1)}, Strokes: []impl.Rows{rows(row(-1, 0), row(-2, 1))},
		},
		"channel channel stroke 0 1\nchannel note channel 0 1\nstroke 0,1\nnote 0 1 note\n": {
			Channels: []impl.Channel{channel("channel", "stroke", 0, 1), channel("note", "channel", 0, 1)},
			Strokes:  []impl.Rows{rows(row(0, 1))},
			Notes:    []impl.Note{note(0, 1, "note")},
		},
		"channel abcdefghijkl a-2345678901 0 1\nstroke 1\nnote 0 1 l-----------\n": {
			Channels: []impl.Channel{channel("abcdefghijkl", "a-2345678901", 0, 1)}, Strokes: []impl.Rows{rows(row(1))}, Notes: []impl.Note{note(0, 1, "l-----------")},
		},
	}
}

func TestFileText(t *testing.T) {
	for text, f := range textsOfFiles() {
		is(t, strconv.Quote(text), impl.FileText(f), text)
	}
	for name, f := range wrongFiles() {
		is(t, name, impl.FileText(f), "")
	}
}

func TestReadFile(t *testing.T) {
	for text, want := range textsOfFiles() {
		f, ok := impl.ReadFile(text)
		is(t, strconv.Quote(text), all(f, ok), all(want, true))
	}
}

// notRead asserts that a text is not the text of a file.
func notRead(t *testing.T, text string) {
	t.Helper()
	f, ok := impl.ReadFile(text)
	is(t, strconv.Quote(text), all(f, ok), all(impl.File{}, false))
}

func TestReadFileWithoutLines(t *testing.T) {
	for _, text := range []string{
		"", "\n", "\n\n", " ", " \n", "\x00", "\xff\n", "x", "x\n", ",\n", "channel", "channel\n", "stroke", "stroke\n", "note\n",
		"stroke 1\n", "note 0 1 a\n", "stroke 1\nnote 0 1 a\n", "stroke \n",
	} {
		notRead(t, text)
	}
}

// TestReadFileLines gives a line instead of each line of a right text; the line itself is not right.
func TestReadFileLines(t *testing.T) {
	const one, two, three = "channel x mm -5 100\n", "stroke 50 -1 0\n", "note 0 1 word\n"
	f, ok := impl.ReadFile(one + two + three)
	is(t, "the right text", all(len(f.Channels), len(f.Strokes), len(f.Notes), ok), all(1, 1, 1, true))
	for _, line := range wrongChannelLines() {
		notRead(t, line)
		notRead(t, line+two+three)
	}
	for _, line := range wrongStrokeLines() {
		notRead(t, one+line)
		notRead(t, one+line+three)
		notRead(t, one+two+line+three)
	}
	for _, line := range wrongNoteLines() {
		notRead(t, one+two+line)
		notRead(t, one+two+three+line)
	}
	for _, line := range []string{"\n", " \n", "line\n", "Channel y mm 0 1\n", "STROKE 1\n", "Note 0 1 a\n", "channels y mm 0 1\n", "strokes 1\n", "notes 0 1 a\n", "# a\n", "\x00\n", "\xff", "a", " "} {
		notRead(t, line+one+two+three)
		notRead(t, one+line+two+three)
		notRead(t, one+two+line+three)
		notRead(t, one+two+three+line)
	}
}

func wrongChannelLines() []string {
	return []string{
		"channel x mm -5\n", "channel x -5 100\n", "channel mm -5 100\n", "channel x mm -5 100 1\n", "channel x mm mm -5 100\n", "channel  x mm -5 100\n",
		" channel x mm -5 100\n", "channel x  mm -5 100\n", "channel x mm  -5 100\n", "channel x mm -5  100\n", "channel x mm -5 100 \n", "channel x mm -5 100\r\n",
		"channel\tx mm -5 100\n", "channel x\tmm -5 100\n", "channel x mm -5\t100\n", "channel x mm -5,100\n", "channel,x,mm,-5,100\n", "channel x mm -5 100\n\n",
		"channel x mm -05 100\n", "channel x mm -5 0100\n", "channel x mm -5 +100\n", "channel x mm - 100\n", "channel x mm -5 1e2\n", "channel x mm -5 100.0\n", "channel x mm -5 0x64\n", "channel x mm -5 1_00\n",
		"channel x mm -0 100\n", "channel x mm -00 100\n", "channel x mm 100 -5\n", "channel x mm 100 100\n", "channel x mm -1000000001 100\n", "channel x mm -5 1000000001\n",
		"channel x mm -5 18446744073709551716\n", "channel x mm -5 1000000000000000000\n", "channel x mm low high\n",
		"channel X mm -5 100\n", "channel x MM -5 100\n", "channel 1x mm -5 100\n", "channel x 1mm -5 100\n", "channel ä mm -5 100\n", "channel abcdefghijklm mm -5 100\n", "channel x abcdefghijklm -5 100\n",
		"channel x mm -5 100\nchannel x mm -5 100\n", "Channel x mm -5 100\n", "channelx mm -5 100\n", "\ufeffchannel x mm -5 100\n", "channel x mm -5 100",
	}
}

func wrongStrokeLines() []string {
	return []string{
		"stroke\n", "stroke \n", "stroke  50\n", " stroke 50\n", "stroke 50 \n", "stroke 50  0\n", "stroke 50\t0\n", "stroke\t50\n", "stroke50\n", "stroke 50\r\n", "stroke 50\n\n", "stroke 50",
		"stroke 50,0\n", "stroke 50,\n", "stroke ,50\n", "stroke ,\n", "stroke 50 0,1\n", "stroke 50 ,\n", "stroke 50, 0\n", "stroke 50;0\n",
		"stroke 050\n", "stroke +50\n", "stroke -0\n", "stroke 00\n", "stroke -01\n", "stroke -\n", "stroke a\n", "stroke 50a\n", "stroke 5.0\n", "stroke 0x5\n", "stroke １\n", "stroke 50\x00\n", "stroke \xff\n",
		"stroke 101\n", "stroke -6\n", "stroke 50 101\n", "stroke 18446744073709551617\n", "stroke 1000000000000000000\n", "strokes 50\n", "Stroke 50\n",
	}
}

func wrongNoteLines() []string {
	return []string{
		"note\n", "note 0 1\n", "note 0 word\n", "note 0 1 word word\n", "note 0 1 word 1\n", "note  0 1 word\n", "note 0  1 word\n", "note 0 1  word\n", " note 0 1 word\n", "note 0 1 word \n", "note 0 1 \n",
		"note\t0 1 word\n", "note 0,1 word\n", "note 0 1,word\n", "note 0 1 word\r\n", "note 0 1 word\n\n", "note 0 1 word",
		"note 00 1 word\n", "note 0 01 word\n", "note +0 1 word\n", "note -0 1 word\n", "note 0 +1 word\n", "note a 1 word\n", "note 0 b word\n", "note 0 1.0 word\n",
		"note -1 1 word\n", "note 0 0 word\n", "note 1 1 word\n", "note 1 0 word\n", "note 0 3 word\n", "note 0 18446744073709551617 word\n",
		"note 0 1 Word\n", "note 0 1 1\n", "note 0 1 -\n", "note 0 1 wörd\n", "note 0 1 abcdefghijklm\n", "note 0 1 a,b\n", "note 0 1 a\x00\n", "note 0 1 \xff\n", "note word 0 1\n", "Note 0 1 word\n",
	}
}

// TestReadFileLineOrder gives the lines of a right text in every other order of their kinds.
func TestReadFileLineOrder(t *testing.T) {
	const one, two, three, four, five = "channel x mm 0 9\n", "channel y mm 0 9\n", "stroke 1,2\n", "stroke 3,4\n", "note 0 1 a\n"
	f, ok := impl.ReadFile(one + two + three + four + five)
	is(t, "the right order", all(len(f.Channels), len(f.Strokes), len(f.Notes), ok), all(2, 2, 1, true))
	for _, lines := range [][]string{
		{three, one, two, four, five}, {one, three, two, four, five}, {one, two, three, five, four}, {one, two, five, three, four},
		{five, one, two, three, four}, {one, five, two, three, four}, {five, four, three, two, one}, {three, four, one, two, five}, {one, three, four, five, two},
		{one, two, five}, {one, three, four, five},
	} {
		notRead(t, strings.Join(lines, ""))
	}
}

func TestReadFileLimits(t *testing.T) {
	channels := func(n int) string {
		text := ""
		for k := range n {
			text += "channel c" + strconv.Itoa(k) + " dot 0 9\n"
		}
		return text
	}
	values := strings.Repeat(",1", impl.MaxChannels)[1:]
	row := " " + values
	stroke := "stroke" + strings.Repeat(row, impl.MaxPoints) + "\n"
	most := channels(impl.MaxChannels) + strings.Repeat(stroke, impl.MaxStrokes)
	const one = "note 0 16 a\n"
	f, ok := impl.ReadFile(most + strings.Repeat(one, impl.MaxNotes))
	is(t, "the most", all(len(f.Channels), len(f.Strokes), len(f.Notes), ok), all(impl.MaxChannels, impl.MaxStrokes, impl.MaxNotes, true))
	is(t, "rows", all(len(f.Strokes[15].Values), len(f.Strokes[15].Values[59])), all(impl.MaxPoints, impl.MaxChannels))
	notRead(t, most+strings.Repeat(one, impl.MaxNotes+1))
	notRead(t, most+stroke)
	notRead(t, channels(impl.MaxChannels)+"stroke"+strings.Repeat(row, impl.MaxPoints+1)+"\n")
	notRead(t, channels(impl.MaxChannels+1)+"stroke "+values+",1\n")
	notRead(t, channels(impl.MaxChannels+1))
	for _, far := range []string{channels(3000), strings.Repeat(stroke, 300), strings.Repeat("\n", 1<<20), strings.Repeat(" ", 1<<20), strings.Repeat(",", 1<<20), "stroke " + strings.Repeat("1,", 1<<16)} {
		f, ok := impl.ReadFile(far)
		is(t, "far too many", all(f, ok), all(impl.File{}, false))
	}
}

// TestReadFileWithOneByteChanged takes away, doubles, inserts and replaces bytes; what is read all the same has that text.
func TestReadFileWithOneByteChanged(t *testing.T) {
	read := 0
	try := func(text string) {
		f, ok := impl.ReadFile(text)
		if ok {
			read++
			is(t, "read: "+strconv.Quote(text), all(impl.FileText(f), impl.ValidFile(f)), all(text, true))
			return
		}
		is(t, "not read: "+strconv.Quote(text), f, impl.File{})
	}
	for k := range len(plainText) {
		before, at, behind := plainText[:k], plainText[k:k+1], plainText[k+1:]
		try(before + behind)
		try(before)
		try(behind)
		for _, other := range []string{" ", "\n", ",", "-", "+", "0", "1", "9", "a", "s", "A", "\t", "\r", "\x00", "\xff", "ä"} {
			try(before + other + at + behind)
			try(before + other + behind)
		}
	}
	is(t, "some are read", read > 100, true)
}

// TestInsideOfTexts are the places at which one byte more or less is never right.
func TestInsideOfTexts(t *testing.T) {
	for k := range len(plainText) {
		if plainText[k] == ' ' || plainText[k] == '\n' {
			notRead(t, plainText[:k]+" "+plainText[k:])
			notRead(t, plainText[:k+1]+" "+plainText[k+1:])
			notRead(t, plainText[:k]+"\t"+plainText[k+1:])
			notRead(t, plainText[:k]+"\r"+plainText[k:])
		}
		if plainText[k] == '\n' {
			notRead(t, plainText[:k]+plainText[k+1:])
			notRead(t, plainText[:k]+"\n"+plainText[k:])
		}
	}
}
