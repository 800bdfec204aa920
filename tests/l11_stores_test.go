package tests

import (
	"fmt"
	"slices"
	"strings"
	"testing"

	"loop.example/g00918/impl"
)

func TestIsLabel(t *testing.T) {
	count := 0
	for b := range 256 {
		s := string([]byte{byte(b)})
		is(t, fmt.Sprintf("byte %d", b), impl.IsLabel(s), isLabelFor(s))
		if impl.IsLabel(s) {
			count++
		}
	}
	is(t, "the number of labels", count, 26+10+9)
	for _, s := range strings.Split("a m z 0 5 9 + - * / = ( ) . ,", " ") {
		is(t, s, impl.IsLabel(s), true)
	}
	// Each of these is just beside a label.
	for _, s := range strings.Split("` { ' : ; < > ! & A Z @ [ _ ^ # % ~ | \\ \" ?", " ") {
		is(t, s, impl.IsLabel(s), false)
	}
	for _, s := range wrongLabels() {
		is(t, fmt.Sprintf("%q", s), impl.IsLabel(s), false)
	}
}

func TestLongerLabels(t *testing.T) {
	for b := range 256 {
		for c := range 256 {
			if s := string([]byte{byte(b), byte(c)}); impl.IsLabel(s) {
				t.Errorf("%q is a label", s)
			}
		}
	}
	for r := rune(128); r <= 0x10ffff; r++ {
		if impl.IsLabel(string(r)) {
			t.Errorf("%q is a label", string(r))
		}
	}
}

func TestValidStore(t *testing.T) {
	s := source(240)
	for _, right := range manyStores(&s) {
		is(t, storeTextFor(right), impl.ValidStore(right), true)
	}
	for name, wrong := range wrongStores() {
		is(t, name, impl.ValidStore(wrong), false)
	}
	for band := int64(-3); band <= impl.MaxSeq+3; band++ {
		want := band >= 0 && band <= 72
		is(t, "band "+impl.Decimal(band), all(impl.ValidStore(store(band)), impl.ValidStore(store(band, template("a", line(5))))), all(want, want))
	}
	for count := range impl.MaxTemplates + 3 {
		is(t, fmt.Sprint(count, " templates"), impl.ValidStore(store(1, slices.Repeat(dots("a", 5).Templates, count)...)), count <= 40)
	}
	for count := range impl.MaxSeq + 3 {
		is(t, fmt.Sprint(count, " features"), impl.ValidStore(store(1, template("a", level(count, feat(1, 2, 3))))), count >= 1 && count <= 72)
	}
	for b := range 256 {
		label := string([]byte{byte(b)})
		is(t, fmt.Sprintf("label %q", label), impl.ValidStore(store(1, template(label, line(5)))), isLabelFor(label))
	}
}

// plainStore is valid; each call makes a new one.
func plainStore() impl.Store {
	return store(2, template("a", feats(0, 0, 1, 9, 9, 1)), template("b", feats(1, 2, 3)), template("a", feats(7, 8, 0, 4, 5, 6, 255, 254, 7)))
}

// changesOfStore change one place of plainStore each.
func changesOfStore() map[string]func(s *impl.Store) {
	changes := map[string]func(s *impl.Store){
		"the band":             func(s *impl.Store) { s.Band = 3 },
		"a band out of range":  func(s *impl.Store) { s.Band = -1 },
		"one template less":    func(s *impl.Store) { s.Templates = s.Templates[:2] },
		"without the first":    func(s *impl.Store) { s.Templates = s.Templates[1:] },
		"one template more":    func(s *impl.Store) { s.Templates = append(s.Templates, s.Templates[2]) },
		"a zero template more": func(s *impl.Store) { s.Templates = append(s.Templates, impl.Template{}) },
		"no templates":         func(s *impl.Store) { s.Templates = nil },
		"templates exchanged":  func(s *impl.Store) { slices.Reverse(s.Templates) },
		"labels exchanged": func(s *impl.Store) {
			s.Templates[0].Label, s.Templates[1].Label = s.Templates[1].Label, s.Templates[0].Label
		},
		"features exchanged": func(s *impl.Store) {
			s.Templates[0].Feats, s.Templates[1].Feats = s.Templates[1].Feats, s.Templates[0].Feats
		},
	}
	for at := range plainStore().Templates {
		place := fmt.Sprint(" of ", at)
		changes["the label"+place] = func(s *impl.Store) { s.Templates[at].Label = "c" }
		changes["the case of the label"+place] = func(s *impl.Store) { s.Templates[at].Label = strings.ToUpper(s.Templates[at].Label) }
		changes["no label"+place] = func(s *impl.Store) { s.Templates[at].Label = "" }
		changes["a longer label"+place] = func(s *impl.Store) { s.Templates[at].Label += "\x00" }
		changes["no features"+place] = func(s *impl.Store) { s.Templates[at].Feats = nil }
		changes["a feature more"+place] = func(s *impl.Store) { s.Templates[at].Feats = append(s.Templates[at].Feats, impl.Feat{}) }
		changes["a feature less"+place] = func(s *impl.Store) { s.Templates[at].Feats = s.Templates[at].Feats[1:] }
		for k := range plainStore().Templates[at].Feats {
			place := fmt.Sprint(" of ", at, ", ", k)
			changes["X"+place] = func(s *impl.Store) { s.Templates[at].Feats[k].X++ }
			changes["Y"+place] = func(s *impl.Store) { s.Templates[at].Feats[k].Y-- }
			changes["D"+place] = func(s *impl.Store) { s.Templates[at].Feats[k].D += 8 }
			changes["X by far"+place] = func(s *impl.Store) { s.Templates[at].Feats[k].X += 1 << 32 }
			changes["Y to the end"+place] = func(s *impl.Store) { s.Templates[at].Feats[k].Y = leastInt }
		}
	}
	return changes
}

func TestSameStore(t *testing.T) {
	is(t, "equal", impl.SameStore(plainStore(), plainStore()), true)
	is(t, "nothing", all(impl.SameStore(impl.Store{}, impl.Store{}), impl.SameStore(impl.Store{}, store(0)), impl.SameStore(store(0), impl.Store{Templates: []impl.Template{}})), all(true, true, true))
	for name, change := range changesOfStore() {
		other := plainStore()
		change(&other)
		is(t, name, all(impl.SameStore(plainStore(), other), impl.SameStore(other, plainStore())), all(false, false))
		again := plainStore()
		change(&again)
		is(t, name+" in both", impl.SameStore(other, again), true)
	}
	s := source(241)
	for _, right := range manyStores(&s) {
		is(t, "with other memory", impl.SameStore(right, roomy(right)), true)
		is(t, "with another band", impl.SameStore(right, store(right.Band+1, right.Templates...)), false)
	}
}

func TestSameStoreOfInvalid(t *testing.T) {
	for name, wrong := range wrongStores() {
		is(t, name, all(impl.SameStore(wrong, wrong), impl.SameStore(wrong, roomy(wrong)), impl.SameStore(wrong, plainStore()), impl.SameStore(plainStore(), wrong)), all(true, true, false, false))
	}
	none, empty := template("", nil), template("", []impl.Feat{})
	is(t, "no features and nil", impl.SameStore(store(-1, none, empty), store(-1, empty, none)), true)
	for _, n := range extremes() {
		for _, m := range extremes() {
			a, b := store(n, template("äöü", feats(n, m, n))), store(m, template("äöü", feats(m, n, m)))
			is(t, "extremes", impl.SameStore(a, b), n == m)
		}
	}
	is(t, "far more templates", impl.SameStore(store(1, make([]impl.Template, 10000)...), store(1, make([]impl.Template, 9999)...)), false)
	is(t, "as many", impl.SameStore(store(1, make([]impl.Template, 10000)...), store(1, make([]impl.Template, 10000)...)), true)
}

func TestAddTemplate(t *testing.T) {
	a, b, plus := template("a", feats(0, 0, 1, 9, 9, 1)), template("b", line(3)), template("+", rising())
	for name, c := range map[string]struct {
		s    impl.Store
		add  impl.Template
		want impl.Store
	}{
		"to none":             {store(0), a, store(0, a)},
		"to the zero store":   {impl.Store{}, b, impl.Store{Templates: []impl.Template{b}}},
		"to one":              {store(2, a), b, store(2, a, b)},
		"to two":              {store(72, a, b), plus, store(72, a, b, plus)},
		"a lesser label":      {store(2, b, b), a, store(2, b, b, a)},
		"the same again":      {store(2, a, b), a, store(2, a, b, a)},
		"the same label":      {store(2, a, b), template("a", line(7)), store(2, a, b, template("a", line(7)))},
		"the longest":         {store(2, a), template("z", level(72, feat(255, 255, 7))), store(2, a, template("z", level(72, feat(255, 255, 7))))},
		"the shortest":        {store(2, plus), template("0", feats(0, 0, 0)), store(2, plus, template("0", feats(0, 0, 0)))},
		"one that is too far": {store(0, a, plus), b, store(0, a, plus, b)},
	} {
		is(t, name, all(impl.AddTemplate(c.s, c.add)), all(c.want, impl.OK))
	}
	for b := range 256 {
		label := string([]byte{byte(b)})
		want := all(impl.Store{}, impl.ErrInvalid)
		if isLabelFor(label) {
			want = all(store(1, a, template(label, line(3))), impl.OK)
		}
		is(t, fmt.Sprintf("label %q", label), all(impl.AddTemplate(store(1, a), template(label, line(3)))), want)
	}
}

// TestAddTemplateUpToFull fills a store up, one template after another.
func TestAddTemplateUpToFull(t *testing.T) {
	s := source(242)
	want := mostOfStore(&s)
	made := store(impl.MaxSeq)
	for at, m := range want.Templates {
		var code int64
		made, code = impl.AddTemplate(made, m)
		is(t, "added", all(made, code), all(store(impl.MaxSeq, want.Templates[:at+1]...), impl.OK))
	}
	is(t, "full", all(made, len(made.Templates)), all(want, impl.MaxTemplates))
	for _, m := range []impl.Template{template("a", line(1)), want.Templates[0], template("z", rising())} {
		is(t, "one too many", all(impl.AddTemplate(made, m)), all(impl.Store{}, impl.ErrFull))
	}
	less, code := impl.RemoveTemplate(made, 7)
	is(t, "room for one", all(len(less.Templates), code), all(39, impl.OK))
	more, code := impl.AddTemplate(less, want.Templates[7])
	is(t, "full again", all(len(more.Templates), more.Templates[39], code), all(40, want.Templates[7], impl.OK))
	is(t, "one too many again", all(impl.AddTemplate(more, want.Templates[7])), all(impl.Store{}, impl.ErrFull))
}

func TestAddTemplateInvalid(t *testing.T) {
	s := source(243)
	good, full, want := template("a", line(1)), mostOfStore(&s), all(impl.Store{}, impl.ErrInvalid)
	for name, wrong := range wrongTemplates() {
		is(t, name, all(impl.AddTemplate(plainStore(), wrong)), want)
		is(t, "to none: "+name, all(impl.AddTemplate(impl.Store{}, wrong)), want)
		is(t, "to a full store: "+name, all(impl.AddTemplate(full, wrong)), want)
	}
	refusedStores(t, "AddTemplate", func(s impl.Store) []any { return all(impl.AddTemplate(s, good)) }, want)
	refusedStores(t, "AddTemplate of a zero one", func(s impl.Store) []any { return all(impl.AddTemplate(s, impl.Template{})) }, want)
}

func TestRemoveTemplate(t *testing.T) {
	a, b, c := template("a", feats(0, 0, 1, 9, 9, 1)), template("b", line(3)), template("a", rising())
	for name, k := range map[string]struct {
		s     impl.Store
		index int64
		want  impl.Store
	}{
		"the first one":         {store(2, a, b, c), 0, store(2, b, c)},
		"the one in the middle": {store(2, a, b, c), 1, store(2, a, c)},
		"the last one":          {store(2, a, b, c), 2, store(2, a, b)},
		"the first one of two":  {store(0, a, b), 0, store(0, b)},
		"the last one of two":   {store(72, a, b), 1, store(72, a)},
		"the only one":          {store(3, b), 0, store(3)},
		"one of equal ones":     {store(3, b, a, b, b), 2, store(3, b, a, b)},
	} {
		is(t, name, all(impl.RemoveTemplate(k.s, k.index)), all(k.want, impl.OK))
	}
}

func TestRemoveTemplateRange(t *testing.T) {
	s := source(244)
	for _, right := range append(manyStores(&s), plainStore()) {
		n := int64(len(right.Templates))
		for index := range n {
			want := store(right.Band, slices.Delete(slices.Clone(right.Templates), int(index), int(index)+1)...)
			is(t, "index "+impl.Decimal(index), all(impl.RemoveTemplate(right, index)), all(want, impl.OK))
		}
		for _, index := range append(extremes(), -1, -2, n, n+1, n+40, -n-1) {
			is(t, "index "+impl.Decimal(index), all(impl.RemoveTemplate(right, index)), all(impl.Store{}, impl.ErrRange))
		}
	}
	for _, index := range append(extremes(), 0, 1, -1, 40) {
		refusedStores(t, "RemoveTemplate", func(s impl.Store) []any { return all(impl.RemoveTemplate(s, index)) }, all(impl.Store{}, impl.ErrInvalid))
	}
}

func TestLabelsOf(t *testing.T) {
	for labels, want := range map[string]string{
		"": "", "a": "a", "aa": "a", "ab": "ab", "ba": "ab", "aba": "ab", "bab": "ab", "cba": "abc", "abcabc": "abc", "zzzay": "ayz", "a0+": "+0a", "9=z": "9=z", "z=9": "9=z",
		"a-a-a": "-a", "mmmmmmmmmm": "m", ",.,.": ",.", ")(": "()", "/*-+": "*+-/", "1a0b": "01ab", "bbbaaabbb": "ab", "=a=b=": "=ab", "0=a": "0=a",
	} {
		made := dots(labels, slices.Repeat(row(5), len(labels))...)
		is(t, labels, all(impl.LabelsOf(made)), all(eachOf(want), impl.OK))
	}
	back := []byte(labelBytes)
	slices.Reverse(back)
	for from := range 6 {
		most, want := string(back[from:from+40]), labelBytes[5-from:45-from]
		is(t, "forty labels", all(impl.LabelsOf(dots(most, make([]int64, 40)...))), all(eachOf(want), impl.OK))
	}
	refusedStores(t, "LabelsOf", func(s impl.Store) []any { return all(impl.LabelsOf(s)) }, all([]string{}, impl.ErrInvalid))
}

// eachOf returns the bytes of a text as texts.
func eachOf(text string) []string {
	list := []string{}
	for k := range len(text) {
		list = append(list, text[k:k+1])
	}
	return list
}

// TestLabelsOfManyStores looks for each label in each store.
func TestLabelsOfManyStores(t *testing.T) {
	s := source(245)
	for _, right := range manyStores(&s) {
		var want []string
		for _, label := range eachOf(labelBytes) {
			if slices.ContainsFunc(right.Templates, func(m impl.Template) bool { return m.Label == label }) {
				want = append(want, label)
			}
		}
		is(t, "the labels", all(impl.LabelsOf(right)), all(want, impl.OK))
	}
}
