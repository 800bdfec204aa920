package tests

import (
	"strconv"
	"testing"

	"loop.example/g00918/impl"
)

// codecCalls are calls of all functions of chapter 4.
func codecCalls(i impl.Ink, list []int64, text string, n, k int64) []any {
	packed, packedCode := impl.PackBits(text)
	bits, bitsCode := impl.UnpackBits(text)
	number, numberCode := impl.NumberBits(n, k)
	rice, riceCode := impl.RiceBits(n, k)
	read, behind, readCode := impl.ReadRice(text, n, k)
	residuals, residualsCode := impl.ResidualsOf(list)
	numbers, numbersCode := impl.FromResiduals(list)
	best, length, bestCode := impl.BestRice(list)
	form, formCode := impl.EncodeInk(i)
	decoded, decodedCode := impl.DecodeInk(form)
	other, otherCode := impl.DecodeInk(text)
	return all(
		packed, packedCode, bits, bitsCode, number, numberCode, rice, riceCode, read, behind, readCode,
		residuals, residualsCode, numbers, numbersCode, best, length, bestCode, impl.ChecksumOf(text),
		form, formCode, decoded, decodedCode, other, otherCode,
	)
}

// sampleLists are lists of numbers of all sorts, some of them too long or with numbers that are too great.
func sampleLists() [][]int64 {
	lists := [][]int64{
		nil, {}, {0}, {-7}, {5, 3, 1, -4}, {leastInt, greatestInt, leastInt}, {greatestInt}, {0, leastInt},
		{impl.MaxResidual, -impl.MaxResidual, impl.MaxResidual}, {impl.MaxResidual / 8, -impl.MaxResidual / 8},
		make([]int64, impl.MaxPoints), make([]int64, impl.MaxPoints+1),
	}
	s := source(31)
	for range 20 {
		var list []int64
		for range s.below(impl.MaxPoints + 1) {
			list = append(list, s.below(2000)-1000)
		}
		lists = append(lists, list)
	}
	return lists
}

// TestPurityOfCompression is for promise 1: calls return, leave their arguments as they are, and repeat their results.
func TestPurityOfCompression(t *testing.T) {
	s := source(32)
	texts := []string{"", "0", "1101", ones(60), "012", "\xff\x00", "IK\x00\xf4\x09", "IK\x00\x00\x00", summed("IK\x01" + ones(40)), longText(80)}
	numbers := []int64{0, 1, -1, 5, impl.MaxRice, impl.MaxRice + 1, 40, 41, 64, impl.MaxResidual, leastInt, greatestInt}
	lists := sampleLists()
	for at, i := range append(sampleInks(), edgeInks()...) {
		for _, list := range lists {
			text, n, k := texts[s.below(10)], numbers[s.below(12)], numbers[s.below(12)]
			one, numbers := roomy(i), roomy(list)
			before := memoryOf(one, numbers)
			first := codecCalls(one, numbers, text, n, k)
			is(t, "arguments of ink "+strconv.Itoa(at), memoryOf(one, numbers), before)
			is(t, "equal results for ink "+strconv.Itoa(at), codecCalls(roomy(i), roomy(list), text, n, k), first)
		}
	}
}

// TestCompressionResultsAreNew is for promise 1: a result shares no memory with an argument or with another result.
func TestCompressionResultsAreNew(t *testing.T) {
	for _, list := range sampleLists() {
		wide := roomy(list)
		residuals, _ := impl.ResidualsOf(wide)
		again, _ := impl.ResidualsOf(wide)
		numbers, _ := impl.FromResiduals(wide)
		more, _ := impl.FromResiduals(residuals)
		is(t, "ResidualsOf", sharesMemory(residuals, wide, again, more), false)
		is(t, "FromResiduals", sharesMemory(numbers, wide, residuals, more), false)
	}
	for _, i := range edgeInks() {
		form, _ := impl.EncodeInk(roomy(i))
		back, _ := impl.DecodeInk(form)
		again, _ := impl.DecodeInk(form)
		is(t, "DecodeInk", sharesMemory(back, i, again), false)
		scribble(back)
		is(t, "decoded again after the result is overwritten", all(impl.DecodeInk(form)), all(i, impl.OK))
	}
}

// smallInks are valid ink with short compressed forms.
func smallInks() []impl.Ink {
	return []impl.Ink{
		{},
		ink(stroke(point(5, 6, 7))),
		ink(stroke(point(10, 20, 0), point(30, 25, 8)), stroke(point(1, 2, 9))),
		ink(stroke(point(0, 4095, 0), point(4095, 0, 3600000))),
		ink(stroke(point(1, 1, 50000), point(2, 3, 50009), point(4, 4, 50018), point(4, 4, 90000))),
		inkWith(3, 2),
	}
}

// TestCompressedInkIsRestored is for promise 4.
func TestCompressedInkIsRestored(t *testing.T) {
	s := source(33)
	inks := append(sampleInks(), edgeInks()...)
	for range 100 {
		inks = append(inks, randomInk(&s))
	}
	for _, i := range append(inks, smallInks()...) {
		if !impl.ValidInk(i) {
			continue
		}
		form, code := impl.EncodeInk(i)
		is(t, "encoded", code, impl.OK)
		back, code := impl.DecodeInk(form)
		is(t, "restored", all(back, code, impl.SameInk(back, i)), all(i, impl.OK, true))
		again, code := impl.EncodeInk(back)
		is(t, "encoded again", all(again, code), all(form, impl.OK))
	}
}

// withByte returns bytes of which one has been changed.
func withByte(s string, at int, b byte) string { return s[:at] + string([]byte{b}) + s[at+1:] }

// TestChangedBytesAreNotAccepted is for promise 4: each byte of some forms becomes each other one.
func TestChangedBytesAreNotAccepted(t *testing.T) {
	s := source(34)
	for _, i := range append(smallInks(), randomInk(&s)) {
		form, _ := impl.EncodeInk(i)
		for at := range len(form) {
			want := int64(impl.ErrSum)
			if at < 2 {
				want = impl.ErrFormat
			}
			for b := range 256 {
				if byte(b) != form[at] {
					is(t, "byte "+strconv.Itoa(at), all(impl.DecodeInk(withByte(form, at, byte(b)))), all(impl.Ink{}, want))
				}
			}
		}
	}
}

// TestChangedBytesWithTheirChecksum is for promise 4: what is accepted is the form of other ink.
func TestChangedBytesWithTheirChecksum(t *testing.T) {
	accepted, refused := 0, 0
	for _, i := range smallInks() {
		form, _ := impl.EncodeInk(i)
		for at := range len(form) - 2 {
			for b := range 256 {
				changed := summed(withByte(form, at, byte(b))[:len(form)-2])
				is(t, "the right checksum", impl.ChecksumOf(changed[:len(form)-2]), int64(changed[len(form)-2])*256+int64(changed[len(form)-1]))
				if decodes(t, "byte "+strconv.Itoa(at), changed) {
					other, _ := impl.DecodeInk(changed)
					is(t, "the same ink has the same form", impl.SameInk(other, i), changed == form)
					accepted++
				} else {
					refused++
				}
			}
		}
	}
	is(t, "some are accepted, and some are not", accepted > 100 && refused > 1000, true)
}

// TestMissingAndSuperfluousBytes is for promise 4, with the checksum that was there and with the right one.
func TestMissingAndSuperfluousBytes(t *testing.T) {
	for _, i := range append(smallInks(), inkWith(5, 20)) {
		form, _ := impl.EncodeInk(i)
		body := form[:len(form)-2]
		for at := range len(form) + 1 {
			is(t, "the beginning", decodes(t, "cut at "+strconv.Itoa(at), form[:at]), at == len(form))
			is(t, "the end", decodes(t, "cut up to "+strconv.Itoa(at), form[at:]), at == 0)
			for _, more := range []string{"\x00", "\xff", "I", "IK", form} {
				is(t, "more", decodes(t, "more at "+strconv.Itoa(at), form[:at]+more+form[at:]), false)
			}
		}
		for at := range len(body) {
			decodes(t, "missing "+strconv.Itoa(at), body[:at]+form[at+1:])
			decodes(t, "missing with its checksum "+strconv.Itoa(at), summed(body[:at]+body[at+1:]))
			decodes(t, "more with its checksum "+strconv.Itoa(at), summed(body[:at]+"\x00"+body[at:]))
			is(t, "a shorter form", decodes(t, "cut with its checksum "+strconv.Itoa(at), summed(body[:at])), false)
		}
		for _, more := range []string{"\x00", "\xff", "\x80", "\x01", "\x00\x00", body} {
			is(t, "a longer form", decodes(t, "more at the end with its checksum", summed(body+more)), false)
		}
	}
}

// TestAnyBytesWithTheirChecksum is for promise 4.
func TestAnyBytesWithTheirChecksum(t *testing.T) {
	s := source(35)
	accepted := 0
	for range 20000 {
		body := "IK" + string([]byte{byte(s.below(3)), byte(s.below(4))})
		for range s.below(12) {
			body += string([]byte{byte(s.below(256))})
		}
		if decodes(t, "any bytes", summed(body)) {
			accepted++
		}
	}
	is(t, "some of them are ink", accepted > 0, true)
}
