package tests

import (
	"strconv"
	"testing"

	"loop.example/g00918/impl"
)

// inkCalls are calls of all functions of chapter 2 with ink and a stroke.
func inkCalls(i, other impl.Ink, s impl.Stroke, n, m int64) []any {
	box, boxCode := impl.BoxOfInk(i)
	strokeBox, strokeCode := impl.BoxOfStroke(s)
	joined, joinCode := impl.JoinBoxes(box, impl.Box{X1: n, Y1: n, X2: m, Y2: m})
	added, addCode := impl.AddStroke(i, s)
	cut, cutCode := impl.CutInk(i, n, m)
	moved, moveCode := impl.MoveInk(i, n, m)
	count, countCode := impl.PointCount(i)
	read, ok := impl.ReadInk(impl.InkText(i))
	return all(
		impl.ValidStroke(s), impl.ValidInk(i), impl.SameInk(i, other), impl.ValidBox(box), impl.InkText(i),
		box, boxCode, strokeBox, strokeCode, joined, joinCode, added, addCode, cut, cutCode, moved, moveCode,
		count, countCode, read, ok,
	)
}

func sampleStrokes() []impl.Stroke {
	return []impl.Stroke{
		{},
		stroke(point(0, 0, 0)),
		stroke(point(1, 2, impl.MaxTime)),
		strokeFrom(30000, impl.MaxPoints),
		strokeFrom(30000, impl.MaxPoints+1),
		stroke(point(leastInt, leastInt, leastInt), point(greatestInt, greatestInt, greatestInt)),
	}
}

// TestPurityOfInk is for promise 1: calls return, leave their arguments as they are, and repeat their results.
func TestPurityOfInk(t *testing.T) {
	inks := sampleInks()
	numbers := [][2]int64{{0, 0}, {0, 1}, {1, 2}, {-1, 3}, {0, impl.MaxStrokes}, {2, 1}, {leastInt, greatestInt}, {greatestInt, leastInt}}
	for k, i := range inks {
		for _, s := range sampleStrokes() {
			for _, n := range numbers {
				one, other, add := roomy(i), roomy(inks[(k+1)%len(inks)]), roomy(s)
				before := memoryOf(one, other, add)
				first := inkCalls(one, other, add, n[0], n[1])
				is(t, "arguments of ink "+strconv.Itoa(k), memoryOf(one, other, add), before)
				is(t, "equal results for ink "+strconv.Itoa(k), inkCalls(roomy(i), roomy(inks[(k+1)%len(inks)]), roomy(s), n[0], n[1]), first)
			}
		}
	}
}

// inkResults are calls that return ink.
func inkResults() map[string]func(i impl.Ink, s impl.Stroke) impl.Ink {
	return map[string]func(i impl.Ink, s impl.Stroke) impl.Ink{
		"AddStroke": func(i impl.Ink, s impl.Stroke) impl.Ink { r, _ := impl.AddStroke(i, s); return r },
		"AddStroke to none": func(_ impl.Ink, s impl.Stroke) impl.Ink {
			r, _ := impl.AddStroke(impl.Ink{}, s)
			return r
		},
		"CutInk all":     func(i impl.Ink, _ impl.Stroke) impl.Ink { r, _ := impl.CutInk(i, 0, 3); return r },
		"CutInk a part":  func(i impl.Ink, _ impl.Stroke) impl.Ink { r, _ := impl.CutInk(i, 1, 2); return r },
		"CutInk nothing": func(i impl.Ink, _ impl.Stroke) impl.Ink { r, _ := impl.CutInk(i, 1, 1); return r },
		"MoveInk by 0":   func(i impl.Ink, _ impl.Stroke) impl.Ink { r, _ := impl.MoveInk(i, 0, 0); return r },
		"MoveInk":        func(i impl.Ink, _ impl.Stroke) impl.Ink { r, _ := impl.MoveInk(i, 3, 4); return r },
		"ReadInk":        func(i impl.Ink, _ impl.Stroke) impl.Ink { r, _ := impl.ReadInk(impl.InkText(i)); return r },
	}
}

// TestResultsAreNew is for promise 1: a result has memory of its own, and so does each of its slices.
func TestResultsAreNew(t *testing.T) {
	for name, call := range inkResults() {
		i, s := roomy(inkWith(3, 4)), roomy(strokeFrom(5000, 2))
		before := memoryOf(i, s)
		result := call(i, s)
		want := roomy(result)
		scribble(result)
		is(t, name+": arguments when the result is overwritten", memoryOf(i, s), before)

		result = call(i, s)
		scribble(i)
		scribbleStroke(s)
		is(t, name+": result when the arguments are overwritten", result, want)

		for k := range result.Strokes {
			scribbleStroke(result.Strokes[k])
			is(t, name+": later strokes when one is overwritten", result.Strokes[k+1:], want.Strokes[k+1:])
		}
	}
}

// TestStrokesThatShareMemory gives ink whose strokes are parts of one slice.
func TestStrokesThatShareMemory(t *testing.T) {
	points := strokeFrom(0, 6).Points
	shared := ink(impl.Stroke{Points: points[:2]}, impl.Stroke{Points: points[2:4]})
	last := impl.Stroke{Points: points[4:]}
	for name, call := range inkResults() {
		result := call(shared, last)
		want := roomy(result)
		for k := range result.Strokes {
			scribbleStroke(result.Strokes[k])
			is(t, name+": later strokes", result.Strokes[k+1:], want.Strokes[k+1:])
		}
		is(t, name+": the points", points, strokeFrom(0, 6).Points)
	}
}

// TestInkIsRestored is for promise 2.
func TestInkIsRestored(t *testing.T) {
	s := source(2)
	for range 300 {
		i := randomInk(&s)
		back, ok := impl.ReadInk(impl.InkText(i))
		is(t, "restored from its text", all(impl.ValidInk(i), back, ok), all(true, i, true))
		is(t, "same ink", impl.SameInk(back, i), true)
		is(t, "text restored", impl.InkText(back), impl.InkText(i))
	}
	for _, i := range sampleInks() {
		back, ok := impl.ReadInk(impl.InkText(i))
		if impl.ValidInk(i) {
			is(t, "sample restored", all(back, ok), all(i, true))
		}
	}
}

// TestInkIsMadeOfStrokes is for promise 2.
func TestInkIsMadeOfStrokes(t *testing.T) {
	s := source(4)
	for range 100 {
		i := randomInk(&s)
		n := int64(len(i.Strokes))
		var made impl.Ink
		var points int64
		text := ""
		for k := range n {
			one, code := impl.CutInk(i, k, k+1)
			is(t, "a stroke", all(one, code), all(ink(i.Strokes[k]), impl.OK))
			made, code = impl.AddStroke(made, one.Strokes[0])
			is(t, "added", code, impl.OK)
			count, _ := impl.PointCount(one)
			points += count
			text += impl.InkText(one)
		}
		is(t, "made of its strokes", made, i)
		is(t, "text made of its strokes", text, impl.InkText(i))
		count, _ := impl.PointCount(i)
		is(t, "points of all strokes", count, points)
		is(t, "box of all strokes", boxOfStrokes(i), all(impl.BoxOfInk(i)))
		restoreFromParts(t, i, s.below(n+1))
	}
}

// boxOfStrokes joins the boxes of all strokes.
func boxOfStrokes(i impl.Ink) []any {
	if len(i.Strokes) == 0 {
		return all(impl.Box{}, int64(impl.ErrState))
	}
	box, code := impl.BoxOfStroke(i.Strokes[0])
	for _, s := range i.Strokes[1:] {
		next, _ := impl.BoxOfStroke(s)
		box, code = impl.JoinBoxes(box, next)
	}
	return all(box, code)
}

// restoreFromParts cuts ink at a place and adds the strokes behind it again.
func restoreFromParts(t *testing.T, i impl.Ink, at int64) {
	t.Helper()
	made, _ := impl.CutInk(i, 0, at)
	behind, _ := impl.CutInk(i, at, int64(len(i.Strokes)))
	for _, s := range behind.Strokes {
		made, _ = impl.AddStroke(made, s)
	}
	is(t, "made of two parts", made, i)
}

// TestMoveBack moves ink there and back.
func TestMoveBack(t *testing.T) {
	s := source(5)
	done := 0
	for range 2000 {
		i := ink(stroke(point(s.below(4096), s.below(4096), 0), point(s.below(4096), s.below(4096), 5)))
		dx, dy := s.below(4096)-2048, s.below(4096)-2048
		moved, code := impl.MoveInk(i, dx, dy)
		if code != impl.OK {
			is(t, "not moved", all(moved, code), all(impl.Ink{}, impl.ErrRange))
			continue
		}
		done++
		back, code := impl.MoveInk(moved, -dx, -dy)
		is(t, "moved back", all(back, code), all(i, impl.OK))
	}
	is(t, "some ink has moved", done > 100, true)
}

// fileCalls are calls of all functions of chapter 3.
func fileCalls(f, other impl.File, i impl.Ink, n impl.Note, name string, at int64) []any {
	place, placeCode := impl.ChannelNamed(f, name)
	column, columnCode := impl.ColumnOf(f, name)
	ofInk, ofInkCode := impl.FileOfInk(i)
	back, backCode := impl.InkOfFile(f)
	noted, notedCode := impl.AddNote(f, n)
	texts, textsCode := impl.NotesOf(f, at)
	read, ok := impl.ReadFile(impl.FileText(f))
	return all(
		impl.ValidFile(f), impl.SameFile(f, other), place, placeCode, column, columnCode, ofInk, ofInkCode,
		back, backCode, noted, notedCode, texts, textsCode, impl.FileText(f), read, ok,
	)
}

// TestPurityOfFiles is for promise 1: calls return, leave their arguments as they are, and repeat their results.
func TestPurityOfFiles(t *testing.T) {
	files, inks := sampleFiles(), sampleInks()
	notes := []impl.Note{note(0, 1, "a"), note(0, impl.MaxStrokes, "a"), note(leastInt, greatestInt, ""), note(0, 1, "A b")}
	for k, f := range files {
		for at, n := range notes {
			name := []string{"x", "t", "", "c1"}[at]
			next, i := files[(k+1)%len(files)], inks[k%len(inks)]
			one, other, from := roomy(f), roomy(next), roomy(i)
			before := memoryOf(one, other, from)
			first := fileCalls(one, other, from, n, name, int64(at-1))
			is(t, "arguments of file "+strconv.Itoa(k), memoryOf(one, other, from), before)
			is(t, "equal results for file "+strconv.Itoa(k), fileCalls(roomy(f), roomy(next), roomy(i), n, name, int64(at-1)), first)
		}
	}
}

// TestFileResultsAreNew is for promise 1: a result shares no memory with an argument or with another part of itself.
func TestFileResultsAreNew(t *testing.T) {
	one := row(50, 100, 1, -10, 7)[:4]
	twice := changed(func(f *impl.File) {
		// Rows that are the same memory, and rows that follow each other in it.
		f.Strokes[0] = rows(one, one)
		values := row(0, 0, 2, 3, 4, 5, 6, 7)
		f.Strokes[1] = rows(values[:4], values[4:])
	})
	for _, f := range []impl.File{plainFile(), roomy(plainFile()), mostOfFile(), twice, fileWith(2, 2, 2, 0), roomy(fileWith(1, 3, 4, 5))} {
		column, _ := impl.ColumnOf(f, f.Channels[0].Name)
		is(t, "ColumnOf", sharesMemory(column, f), false)
		i, _ := impl.InkOfFile(f)
		is(t, "InkOfFile", sharesMemory(i, f), false)
		noted, _ := impl.AddNote(f, note(0, 1, "a"))
		is(t, "AddNote", sharesMemory(noted, f), false)
		texts, _ := impl.NotesOf(f, 0)
		is(t, "NotesOf", sharesMemory(texts, f), false)
		read, _ := impl.ReadFile(impl.FileText(f))
		is(t, "ReadFile", sharesMemory(read, f), false)
	}
	for _, i := range sampleInks() {
		wide := roomy(i)
		f, _ := impl.FileOfInk(wide)
		again, _ := impl.FileOfInk(wide)
		is(t, "FileOfInk", all(sharesMemory(f, wide), sharesMemory(f, again)), all(false, false))
	}
	is(t, "what shares memory", all(sharesMemory(twice), sharesMemory(one, one[1:3]), sharesMemory(plainFile())), all(true, true, false))
}

// TestInkIsRestoredFromFiles is for promise 3.
func TestInkIsRestoredFromFiles(t *testing.T) {
	s := source(9)
	inks := sampleInks()
	for range 200 {
		inks = append(inks, randomInk(&s))
	}
	for _, i := range inks {
		if !impl.ValidInk(i) {
			continue
		}
		f, code := impl.FileOfInk(i)
		is(t, "file", all(impl.ValidFile(f), code), all(true, impl.OK))
		back, code := impl.InkOfFile(f)
		is(t, "restored from its file", all(back, code), all(i, impl.OK))
		read, ok := impl.ReadFile(impl.FileText(f))
		is(t, "file restored", all(read, ok), all(f, true))
		back, code = impl.InkOfFile(read)
		is(t, "restored from the text of its file", all(back, code), all(i, impl.OK))
	}
}

// TestFilesAreRestoredFromTexts is for promise 3.
func TestFilesAreRestoredFromTexts(t *testing.T) {
	s := source(10)
	files := sampleFiles()
	for range 300 {
		f := randomFile(&s)
		is(t, "a random file is valid", impl.ValidFile(f), true)
		files = append(files, f)
	}
	for _, f := range files {
		if !impl.ValidFile(f) {
			continue
		}
		text := impl.FileText(f)
		read, ok := impl.ReadFile(text)
		is(t, "restored", all(read, ok, impl.SameFile(read, f)), all(f, true, true))
		is(t, "text restored", impl.FileText(read), text)
		for _, part := range []string{text[1:], text[:len(text)-1], text + "\n", text + " ", "\n" + text, " " + text} {
			_, ok = impl.ReadFile(part)
			is(t, "a text that is not right", ok, false)
		}
	}
}

// TestNotesAreOnTheirStrokes adds notes one by one, and counts them on each stroke.
func TestNotesAreOnTheirStrokes(t *testing.T) {
	s := source(11)
	for range 100 {
		f := randomFile(&s)
		notes := f.Notes
		made := f
		made.Notes = nil
		for _, n := range notes {
			var code int64
			made, code = impl.AddNote(made, n)
			is(t, "added", code, impl.OK)
		}
		is(t, "made of its notes", made, f)
		for at := range f.Strokes {
			var want []string
			for _, n := range notes {
				if int64(at) >= n.From && int64(at) <= n.To-1 {
					want = append(want, n.Text)
				}
			}
			texts, code := impl.NotesOf(f, int64(at))
			is(t, "on a stroke", all(texts, code), all(want, impl.OK))
		}
	}
}
