package tests

import (
	"reflect"
	"slices"
	"testing"

	"loop.example/g00918/impl"
)

const (
	leastInt    = -1 << 63
	greatestInt = 1<<63 - 1
)

// is compares deeply, with nil and empty slices of one type equal, as the document's conventions say.
func is(t *testing.T, name string, got, want any) {
	t.Helper()
	if reflect.DeepEqual(got, want) {
		return
	}
	if !reflect.DeepEqual(plain(reflect.ValueOf(got)), plain(reflect.ValueOf(want))) {
		t.Errorf("%s: got %#v, want %#v", name, got, want)
	}
}

// plain turns a value into one in which nil and empty slices look alike.
func plain(v reflect.Value) any {
	if !v.IsValid() {
		return nil
	}
	switch v.Kind() {
	case reflect.Slice:
		list := []any{v.Type().String()}
		for k := range v.Len() {
			list = append(list, plain(v.Index(k)))
		}
		return list
	case reflect.Struct:
		list := []any{v.Type().String()}
		for k := range v.NumField() {
			list = append(list, plain(v.Field(k)))
		}
		return list
	case reflect.Interface:
		return plain(v.Elem())
	case reflect.Int, reflect.Int64:
		return v.Int()
	}
	return v.Interface()
}

// all collects the results of a call.
func all(results ...any) []any { return results }

// strokeFrom returns a valid stroke whose points all differ, so that a lost, doubled or exchanged one shows.
func strokeFrom(start, n int64) impl.Stroke {
	var s impl.Stroke
	for k := range n {
		s.Points = append(s.Points, impl.Point{X: k + 1, Y: 2*k + 100, T: start + k})
	}
	return s
}

func point(x, y, t int64) impl.Point { return impl.Point{X: x, Y: y, T: t} }

func stroke(points ...impl.Point) impl.Stroke { return impl.Stroke{Points: points} }

func ink(strokes ...impl.Stroke) impl.Ink { return impl.Ink{Strokes: strokes} }

// inkWith returns valid ink with so many strokes, each with so many points.
func inkWith(strokes, points int64) impl.Ink {
	var i impl.Ink
	for k := range strokes {
		i.Strokes = append(i.Strokes, strokeFrom(k*1000, points))
	}
	return i
}

// source is a generator of numbers that are the same in every run.
type source uint64

func (s *source) below(n int64) int64 {
	*s = *s*6364136223846793005 + 1442695040888963407
	return int64(uint64(*s)>>33) % n
}

// randomInk returns valid ink; its strokes often follow each other as closely as they may.
func randomInk(s *source) impl.Ink {
	var i impl.Ink
	time := s.below(5)
	for range s.below(impl.MaxStrokes + 1) {
		var stroke impl.Stroke
		for range 1 + s.below(impl.MaxPoints) {
			stroke.Points = append(stroke.Points, point(s.below(impl.MaxCoord+1), s.below(impl.MaxCoord+1), time))
			time += 1 + s.below(3)*s.below(1000)
		}
		i.Strokes = append(i.Strokes, stroke)
	}
	return i
}

// sampleInks are valid and invalid ink of all sorts.
func sampleInks() []impl.Ink {
	inks := []impl.Ink{
		{},
		{Strokes: []impl.Stroke{}},
		ink(stroke()),
		ink(stroke(point(0, 0, 0))),
		ink(stroke(point(impl.MaxCoord, impl.MaxCoord, impl.MaxTime))),
		ink(stroke(point(leastInt, greatestInt, leastInt))),
		ink(stroke(point(1, 1, 1)), stroke()),
		ink(stroke(), stroke(point(1, 1, 1))),
		ink(stroke(point(1, 1, 1)), stroke(point(1, 1, 1))),
		ink(strokeFrom(0, impl.MaxPoints+1)),
		inkWith(impl.MaxStrokes, impl.MaxPoints),
		inkWith(impl.MaxStrokes+1, 1),
	}
	s := source(1)
	for range 20 {
		inks = append(inks, randomInk(&s))
	}
	return inks
}

// roomy returns an equal value whose slices have unused capacity, filled with what must stay.
func roomy[T any](v T) T { return roomyValue(reflect.ValueOf(v)).Interface().(T) }

func roomyValue(v reflect.Value) reflect.Value {
	switch v.Kind() {
	case reflect.Slice:
		wide := reflect.MakeSlice(v.Type(), v.Len()+2, v.Len()+2)
		for k := range wide.Len() {
			if k < v.Len() {
				wide.Index(k).Set(roomyValue(v.Index(k)))
			} else {
				wide.Index(k).Set(filled(v.Type().Elem()))
			}
		}
		return wide.Slice(0, v.Len())
	case reflect.Struct:
		with := reflect.New(v.Type()).Elem()
		for k := range v.NumField() {
			with.Field(k).Set(roomyValue(v.Field(k)))
		}
		return with
	}
	return v
}

// filled returns a value of a type without zeros in it.
func filled(t reflect.Type) reflect.Value {
	v := reflect.New(t).Elem()
	switch t.Kind() {
	case reflect.Int64:
		v.SetInt(7)
	case reflect.String:
		v.SetString("spare")
	case reflect.Slice:
		v.Set(reflect.Append(v, filled(t.Elem())))
	case reflect.Struct:
		for k := range v.NumField() {
			v.Field(k).Set(filled(v.Field(k).Type()))
		}
	}
	return v
}

// memoryOf copies everything that values can reach, with unused capacity.
func memoryOf(values ...any) []any {
	var memory []any
	for _, v := range values {
		memory = append(memory, memoryOfValue(reflect.ValueOf(v)))
	}
	return memory
}

func memoryOfValue(v reflect.Value) any {
	var memory []any
	switch v.Kind() {
	case reflect.Slice:
		whole := v.Slice(0, v.Cap())
		for k := range whole.Len() {
			memory = append(memory, memoryOfValue(whole.Index(k)))
		}
		return memory
	case reflect.Struct:
		for k := range v.NumField() {
			memory = append(memory, memoryOfValue(v.Field(k)))
		}
		return memory
	}
	return v.Interface()
}

// slicesIn returns where the slices of a value begin and end in memory, with unused capacity.
func slicesIn(v reflect.Value) [][2]uintptr {
	var places [][2]uintptr
	switch v.Kind() {
	case reflect.Slice:
		begin := v.Pointer()
		places = append(places, [2]uintptr{begin, begin + uintptr(v.Cap())*v.Type().Elem().Size()})
		for k := range v.Len() {
			places = append(places, slicesIn(v.Index(k))...)
		}
	case reflect.Struct:
		for k := range v.NumField() {
			places = append(places, slicesIn(v.Field(k))...)
		}
	}
	return places
}

func overlap(a, b [2]uintptr) bool { return max(a[0], b[0]) < min(a[1], b[1]) }

// sharesMemory reports whether a slice of a result has memory in common with another one or with an argument.
func sharesMemory(result any, arguments ...any) bool {
	own := slicesIn(reflect.ValueOf(result))
	var others [][2]uintptr
	for _, a := range arguments {
		others = append(others, slicesIn(reflect.ValueOf(a))...)
	}
	for k, place := range own {
		for _, other := range slices.Concat(own[k+1:], others) {
			if overlap(place, other) {
				return true
			}
		}
	}
	return false
}

// scribble overwrites everything that ink can reach.
func scribble(i impl.Ink) {
	strokes := i.Strokes[:cap(i.Strokes)]
	for k, s := range strokes {
		scribbleStroke(s)
		strokes[k] = stroke(point(-9, -9, -9))
	}
}

func scribbleStroke(s impl.Stroke) {
	points := s.Points[:cap(s.Points)]
	for k := range points {
		points[k] = point(-9, -9, -9)
	}
}
