package tests

import (
	"slices"
	"testing"

	"loop.example/g01244/impl"
)

func TestNormalWord(t *testing.T) {
	for _, m := range someMachines(t) {
		known := towerOf(m)
		for _, g := range manyGroups(m) {
			if got, code := impl.NormalWord(m, g); !slices.Equal(got, known.normalBy(g)) || code != impl.ErrNone {
				t.Errorf("NormalWord(%v, %v) = %v, %d", m, g, got, code)
			}
		}
	}
}

func TestNormalWordExamples(t *testing.T) {
	// a and d leave all words, c is equal to b, and e is the inverse of b.
	const text = "2:0a1d,1a0b,1d0c,0d1d,1e0a"
	examples := map[string]string{
		"": "", "a": "", "A": "", "dDaA": "", "b": "b", "c": "b", "C": "B", "bC": "", "Cb": "", "bb": "bb", "be": "be", "bE": "bE",
		"bac": "bb", "baC": "", "ebdaCE": "", "bebCEB": "", "bCe": "e", "ebC": "e", "BbBc": "", "bBb": "b", "bcBCe": "e", "EadBbe": "", "EB": "EB",
	}
	m := parse(t, text)
	for from, want := range examples {
		word := must(impl.NormalWord(m, groupOf(m, from)))
		if got := must(impl.GroupText(m, word)); got != want {
			t.Errorf("NormalWord of %q = %q, not %q", from, got, want)
		}
	}
}

// TestNormalWordsHaveTheSameImages is a part of promise 2.
func TestNormalWordsHaveTheSameImages(t *testing.T) {
	for _, m := range someMachines(t) {
		for _, g := range manyGroups(m) {
			word := must(impl.NormalWord(m, g))
			if !impl.IsGroupWord(m, word) || len(word) > len(g) {
				t.Fatalf("NormalWord(%v, %v) = %v", m, g, word)
			}
			if again := must(impl.NormalWord(m, word)); !slices.Equal(again, word) {
				t.Errorf("%v: the normal word of %v is %v", m, word, again)
			}
			for _, w := range append(wordsUpTo(m.Letters, 2), longWords(m.Letters)[30:]...) {
				if must(impl.ImageOf(m, g, w)) != must(impl.ImageOf(m, word, w)) {
					t.Errorf("%v: %v and %v have different images of %q", m, g, word, w)
				}
			}
		}
	}
}

func TestImagesAndSections(t *testing.T) {
	for _, m := range someMachines(t) {
		for _, g := range manyGroups(m) {
			for _, w := range append(wordsUpTo(m.Letters, 2), longWords(m.Letters)[32:]...) {
				if got, code := impl.ImageOf(m, g, w); got != imageBy(m, g, w) || code != impl.ErrNone {
					t.Errorf("ImageOf(%v, %v, %q) = %q, %d", m, g, w, got, code)
				}
				if got, code := impl.SectionOf(m, g, w); !slices.Equal(got, sectionBy(m, g, w)) || code != impl.ErrNone {
					t.Errorf("SectionOf(%v, %v, %q) = %v, %d", m, g, w, got, code)
				}
			}
		}
	}
}

func TestImageAndSectionExamples(t *testing.T) {
	m := parse(t, "2:0a1a,1a0b")
	examples := []struct{ group, word, image, section string }{
		{"", "0110", "0110", ""}, {"b", "", "", "b"}, {"bB", "", "", "bB"}, {"b", "110", "001", "a"}, {"b", "111", "000", "b"},
		{"B", "000", "111", "B"}, {"B", "001", "110", "A"}, {"bb", "11", "10", "ba"}, {"BB", "10", "11", "AB"}, {"bB", "1", "1", "bB"}, {"Bb", "1", "1", "Aa"},
		{"bbb", "01", "10", "aba"}, {"aAb", "11", "00", "aAb"},
	}
	for _, e := range examples {
		g := groupOf(m, e.group)
		image, section := must(impl.ImageOf(m, g, e.word)), must(impl.SectionOf(m, g, e.word))
		if text := must(impl.GroupText(m, section)); image != e.image || text != e.section {
			t.Errorf("%q leads %q to %q with the section %q", e.group, e.word, image, text)
		}
	}
}

// TestImagesOfProducts is a part of promise 12.
func TestImagesOfProducts(t *testing.T) {
	for _, m := range someMachines(t) {
		d := dice(17)
		for range 12 {
			g, h := randomGroup(&d, m, d.roll(21)), randomGroup(&d, m, d.roll(21))
			both := must(impl.MultiplyWords(m, g, h))
			for _, w := range append(wordsUpTo(m.Letters, 2), longWords(m.Letters)[35:]...) {
				if must(impl.ImageOf(m, both, w)) != must(impl.ImageOf(m, h, must(impl.ImageOf(m, g, w)))) {
					t.Errorf("%v: the image of %q under %v and %v", m, w, g, h)
				}
				if back := must(impl.ImageOf(m, must(impl.InverseWord(m, g)), must(impl.ImageOf(m, g, w)))); back != w {
					t.Errorf("%v: the inverse of %v leads back to %q, not %q", m, g, back, w)
				}
			}
		}
	}
}

// TestSectionsLeadTheRests is a part of promise 12.
func TestSectionsLeadTheRests(t *testing.T) {
	for _, m := range someMachines(t) {
		for _, g := range manyGroups(m) {
			for _, w := range longWords(m.Letters)[37:] {
				whole := must(impl.ImageOf(m, g, w))
				for _, cut := range []int{0, 1, len(w) / 2, len(w)} {
					section := must(impl.SectionOf(m, g, w[:cut]))
					if must(impl.ImageOf(m, g, w[:cut]))+must(impl.ImageOf(m, section, w[cut:])) != whole {
						t.Errorf("%v, %v: %q is cut at %d", m, g, w, cut)
					}
					if rest := must(impl.SectionOf(m, section, w[cut:])); !slices.Equal(rest, must(impl.SectionOf(m, g, w))) {
						t.Errorf("%v, %v: the section at %q is cut at %d: %v", m, g, w, cut, rest)
					}
				}
			}
		}
	}
}

func TestWreathOf(t *testing.T) {
	for _, m := range someMachines(t) {
		for _, g := range manyGroups(m) {
			images, sections, code := impl.WreathOf(m, g)
			if int64(len(images)) != m.Letters || int64(len(sections)) != m.Letters || code != impl.ErrNone {
				t.Fatalf("WreathOf(%v, %v) = %v, %v, %d", m, g, images, sections, code)
			}
			for x, w := range wordsOf(m.Letters, 1) {
				if string(rune('0'+images[x])) != imageBy(m, g, w) || !slices.Equal(sections[x], sectionBy(m, g, w)) {
					t.Errorf("WreathOf(%v, %v) = %v, %v", m, g, images, sections)
				}
			}
		}
	}
}

func TestWreathOfExamples(t *testing.T) {
	m := parse(t, "3:0a1a2a,1a2a0b")
	images, sections, code := impl.WreathOf(m, []int64{2, 2, -1})
	want := [][]int64{{1, 1, -1}, {1, 2, -1}, {2, 1, -1}}
	if !slices.Equal(images, []int64{2, 0, 1}) || !slices.EqualFunc(sections, want, slices.Equal) || code != impl.ErrNone {
		t.Errorf("WreathOf = %v, %v, %d", images, sections, code)
	}
	images, sections, code = impl.WreathOf(m, []int64{-2})
	want = [][]int64{{-2}, {-1}, {-1}}
	if !slices.Equal(images, []int64{2, 0, 1}) || !slices.EqualFunc(sections, want, slices.Equal) || code != impl.ErrNone {
		t.Errorf("WreathOf = %v, %v, %d", images, sections, code)
	}
	images, sections, code = impl.WreathOf(m, nil)
	if !slices.Equal(images, []int64{0, 1, 2}) || len(sections) != 3 || len(sections[0])+len(sections[1])+len(sections[2]) != 0 || code != impl.ErrNone {
		t.Errorf("WreathOf the empty word = %v, %v, %d", images, sections, code)
	}
}

func TestPermutationOf(t *testing.T) {
	for _, m := range someMachines(t) {
		for _, g := range manyGroups(m)[:11] {
			for n := int64(0); n <= impl.MaxLevel; n++ {
				if n == impl.MaxLevel && len(g) > 4 {
					continue
				}
				words := wordsOf(m.Letters, int(n))
				var want []int64
				for _, w := range words {
					want = append(want, int64(slices.Index(words, imageBy(m, g, w))))
				}
				if got, code := impl.PermutationOf(m, g, n); !slices.Equal(got, want) || code != impl.ErrNone {
					t.Errorf("PermutationOf(%v, %v, %d) = %v, %d", m, g, n, got, code)
				}
			}
		}
	}
}

func TestPermutationOfExamples(t *testing.T) {
	m := parse(t, "2:0a1a,1a0b")
	examples := []struct {
		g    []int64
		n    int64
		want []int64
	}{
		{[]int64{2}, 0, []int64{0}}, {[]int64{2}, 1, []int64{1, 0}}, {[]int64{2}, 2, []int64{2, 3, 1, 0}}, {[]int64{-2}, 2, []int64{3, 2, 0, 1}},
		{[]int64{2, 2}, 2, []int64{1, 0, 3, 2}}, {nil, 2, []int64{0, 1, 2, 3}}, {nil, 0, []int64{0}}, {slices.Repeat([]int64{2}, 40), 3, []int64{0, 1, 2, 3, 4, 5, 6, 7}},
	}
	for _, e := range examples {
		if got, code := impl.PermutationOf(m, e.g, e.n); !slices.Equal(got, e.want) || code != impl.ErrNone {
			t.Errorf("PermutationOf(%v, %d) = %v, %d", e.g, e.n, got, code)
		}
	}
}

// firstBy looks for the first difference in the order of the document.
func firstBy(m impl.Machine, g, h []int64) (string, int64) {
	for _, w := range wordsUpTo(m.Letters, impl.MaxLevel) {
		if imageBy(m, g, w) != imageBy(m, h, w) {
			return w, impl.ErrNone
		}
	}
	return "", impl.ErrNotFound
}

func TestFirstDifference(t *testing.T) {
	for _, m := range someMachines(t) {
		groups := manyGroups(m)[:11]
		for i, g := range groups {
			for _, h := range [][]int64{g, groups[0], groups[(i+3)%len(groups)], must(impl.NormalWord(m, g))} {
				want, wantCode := firstBy(m, g, h)
				if got, code := impl.FirstDifference(m, g, h); got != want || code != wantCode {
					t.Errorf("FirstDifference(%v, %v, %v) = %q, %d, not %q", m, g, h, got, code, want)
				}
			}
		}
	}
}

func TestFirstDifferenceExamples(t *testing.T) {
	// The states of the chain change what stands behind 15, 14, .. letters.
	for letters := int64(2); letters <= 3; letters++ {
		m := chain(letters)
		for q, want := range map[int64]string{16: "0", 15: "00", 12: "00000"} {
			for _, g := range [][]int64{{q}, {-q}, {q, 1}} {
				if got, code := impl.FirstDifference(m, g, nil); got != want || code != impl.ErrNone {
					t.Errorf("FirstDifference(chain, %v, {}) = %q, %d", g, got, code)
				}
			}
		}
		if got, code := impl.FirstDifference(m, []int64{11}, nil); got != "" || code != impl.ErrNotFound {
			t.Errorf("FirstDifference(chain, {11}, {}) = %q, %d", got, code)
		}
	}
	m := parse(t, "3:0a1a2a,0a2a1a,0b1a2a,0a1b2a,0a1a2b,0e1e2e")
	for text, want := range map[string]string{"b": "1", "c": "01", "d": "11", "e": "21", "f": "021", "fB": "1"} {
		if got, code := impl.FirstDifference(m, nil, groupOf(m, text)); got != want || code != impl.ErrNone {
			t.Errorf("FirstDifference({}, %q) = %q, %d", text, got, code)
		}
	}
}
