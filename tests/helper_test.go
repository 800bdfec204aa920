package tests

import (
	"reflect"
	"testing"

	"loop.example/g00918/impl"
)

const (
	leastInt    = -1 << 63
	greatestInt = 1<<63 - 1
)

// is compares deeply, with nil and empty slices of one type equal, as the document's conventions say.
func is(t *testing.T, name string, got, want any) {
	t.Helper()
	if reflect.DeepEqual(got, want) {
		return
	}
	if !reflect.DeepEqual(plain(reflect.ValueOf(got)), plain(reflect.ValueOf(want))) {
		t.Errorf("%s: got %#v, want %#v", name, got, want)
	}
}

// plain turns a value into one in which nil and empty slices look alike.
func plain(v reflect.Value) any {
	if !v.IsValid() {
		return nil
	}
	switch v.Kind() {
	case reflect.Slice:
		list := []any{v.Type().String()}
		for k := range v.Len() {
			list = append(list, plain(v.Index(k)))
		}
		return list
	case reflect.Struct:
		list := []any{v.Type().String()}
		for k := range v.NumField() {
			list = append(list, plain(v.Field(k)))
		}
		return list
	case reflect.Interface:
		return plain(v.Elem())
	case reflect.Int, reflect.Int64:
		return v.Int()
	}
	return v.Interface()
}

// all collects the results of a call.
func all(results ...any) []any { return results }

// strokeFrom returns a valid stroke whose points all differ, so that a lost, doubled or exchanged one shows.
func strokeFrom(start, n int64) impl.Stroke {
	var s impl.Stroke
	for k := range n {
		s.Points = append(s.Points, impl.Point{X: k + 1, Y: 2*k + 100, T: start + k})
	}
	return s
}

func point(x, y, t int64) impl.Point { return impl.Point{X: x, Y: y, T: t} }

func stroke(points ...impl.Point) impl.Stroke { return impl.Stroke{Points: points} }

func ink(strokes ...impl.Stroke) impl.Ink { return impl.Ink{Strokes: strokes} }

// inkWith returns valid ink with so many strokes, each with so many points.
func inkWith(strokes, points int64) impl.Ink {
	var i impl.Ink
	for k := range strokes {
		i.Strokes = append(i.Strokes, strokeFrom(k*1000, points))
	}
	return i
}

// source is a generator of numbers that are the same in every run.
type source uint64

func (s *source) below(n int64) int64 {
	*s = *s*6364136223846793005 + 1442695040888963407
	return int64(uint64(*s)>>33) % n
}

// randomInk returns valid ink; its strokes often follow each other as closely as they may.
func randomInk(s *source) impl.Ink {
	var i impl.Ink
	time := s.below(5)
	for range s.below(impl.MaxStrokes + 1) {
		var stroke impl.Stroke
		for range 1 + s.below(impl.MaxPoints) {
			stroke.Points = append(stroke.Points, point(s.below(impl.MaxCoord+1), s.below(impl.MaxCoord+1), time))
			time += 1 + s.below(3)*s.below(1000)
		}
		i.Strokes = append(i.Strokes, stroke)
	}
	return i
}

// sampleInks are valid and invalid ink of all sorts.
func sampleInks() []impl.Ink {
	inks := []impl.Ink{
		{},
		{Strokes: []impl.Stroke{}},
		ink(stroke()),
		ink(stroke(point(0, 0, 0))),
		ink(stroke(point(impl.MaxCoord, impl.MaxCoord, impl.MaxTime))),
		ink(stroke(point(leastInt, greatestInt, leastInt))),
		ink(stroke(point(1, 1, 1)), stroke()),
		ink(stroke(), stroke(point(1, 1, 1))),
		ink(stroke(point(1, 1, 1)), stroke(point(1, 1, 1))),
		ink(strokeFrom(0, impl.MaxPoints+1)),
		inkWith(impl.MaxStrokes, impl.MaxPoints),
		inkWith(impl.MaxStrokes+1, 1),
	}
	s := source(1)
	for range 20 {
		inks = append(inks, randomInk(&s))
	}
	return inks
}

// roomy returns equal ink whose slices have unused capacity, filled with numbers that must stay.
func roomy(i impl.Ink) impl.Ink {
	strokes := make([]impl.Stroke, 0, len(i.Strokes)+2)
	for _, s := range i.Strokes {
		strokes = append(strokes, roomyStroke(s))
	}
	fill := strokes[len(strokes):cap(strokes)]
	for k := range fill {
		fill[k] = stroke(point(7, 7, 7))
	}
	return impl.Ink{Strokes: strokes}
}

func roomyStroke(s impl.Stroke) impl.Stroke {
	points := make([]impl.Point, len(s.Points), len(s.Points)+2)
	copy(points, s.Points)
	fill := points[len(points):cap(points)]
	for k := range fill {
		fill[k] = point(7, 7, 7)
	}
	return impl.Stroke{Points: points}
}

// memoryOf copies everything that ink can reach, with unused capacity.
func memoryOf(i impl.Ink) [][]impl.Point {
	var memory [][]impl.Point
	for _, s := range i.Strokes[:cap(i.Strokes)] {
		memory = append(memory, append([]impl.Point{}, s.Points[:cap(s.Points)]...))
	}
	return memory
}

// scribble overwrites everything that ink can reach.
func scribble(i impl.Ink) {
	strokes := i.Strokes[:cap(i.Strokes)]
	for k, s := range strokes {
		scribbleStroke(s)
		strokes[k] = stroke(point(-9, -9, -9))
	}
}

func scribbleStroke(s impl.Stroke) {
	points := s.Points[:cap(s.Points)]
	for k := range points {
		points[k] = point(-9, -9, -9)
	}
}
