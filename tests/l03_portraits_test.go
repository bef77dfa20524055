package tests

import (
	"fmt"
	"slices"
	"strings"
	"testing"

	"loop.example/g01244/impl"
)

func TestIsPortrait(t *testing.T) {
	for _, s := range allShapes() {
		for _, list := range s.some() {
			if !impl.IsPortrait(s.d, int64(s.n), list) {
				t.Errorf("IsPortrait(%v, %v) = false", s, list)
			}
		}
		for _, list := range s.bad() {
			if impl.IsPortrait(s.d, int64(s.n), list) {
				t.Errorf("IsPortrait(%v, %.45v) = true", s, list)
			}
		}
		for length := range 50 {
			if got := impl.IsPortrait(s.d, int64(s.n), make([]int64, length)); got != (length == s.size()) {
				t.Errorf("IsPortrait(%v, %d numbers) = %v", s, length, got)
			}
		}
	}
}

func TestPortraitSizes(t *testing.T) {
	for d, sizes := range map[int64][]int{2: {1, 3, 7, 15}, 3: {1, 4, 13, 40}} {
		for i, size := range sizes {
			n := int64(i) + 1
			if !impl.IsPortrait(d, n, make([]int64, size)) || impl.IsPortrait(d, n, make([]int64, size-1)) || impl.IsPortrait(d, n, make([]int64, size+1)) {
				t.Errorf("portraits for %d and %d do not have %d numbers", d, n, size)
			}
			if impl.IsPortrait(5-d, n, make([]int64, size)) != (n == 1) {
				t.Errorf("portraits for %d and %d have %d numbers", 5-d, n, size)
			}
		}
	}
	if impl.IsPortrait(2, 1, []int64{2}) || !impl.IsPortrait(3, 1, []int64{2}) || impl.IsPortrait(3, 1, []int64{6}) {
		t.Error("IsPortrait takes other permutations")
	}
}

// TestIsPortraitRanges asks for lists that would have the right length, were d and n in their ranges.
func TestIsPortraitRanges(t *testing.T) {
	far := append([]int64{-3, -2, -1, 0, 1, 4, 5, 6}, farNumbers...)
	for length := range 130 {
		list := make([]int64, length)
		for _, k := range far {
			for n := int64(1); n <= 4; n++ {
				if impl.IsPortrait(k, n, list) {
					t.Errorf("IsPortrait(%d, %d, %d numbers) = true", k, n, length)
				}
			}
			for d := int64(2); d <= 3; d++ {
				if (k < 1 || k > 4) && impl.IsPortrait(d, k, list) {
					t.Errorf("IsPortrait(%d, %d, %d numbers) = true", d, k, length)
				}
			}
		}
	}
}

// portraitBy is the document's definition of the portrait of a state.
func portraitBy(m impl.Machine, q int64, n int) []int64 {
	lists := permutationLists(m.Letters)
	var portrait []int64
	for _, v := range wordsUpTo(m.Letters, n-1) {
		out := m.Out[sectionOf(m, q, v)]
		portrait = append(portrait, int64(slices.IndexFunc(lists, func(p []int64) bool {
			return p[0] == int64(out[0]) && p[1] == int64(out[1])
		})))
	}
	return portrait
}

func TestPortraitOf(t *testing.T) {
	for _, m := range someMachines(t) {
		for q := range m.States {
			for n := 1; n <= impl.MaxDepth; n++ {
				got, code := impl.PortraitOf(m, q, int64(n))
				expectList(t, fmt.Sprintf("PortraitOf(%v, %d, %d)", m, q, n), got, code, portraitBy(m, q, n))
				if !impl.IsPortrait(m.Letters, int64(n), got) {
					t.Errorf("PortraitOf(%v, %d, %d) = %v", m, q, n, got)
				}
			}
		}
	}
}

func TestPortraitOfExamples(t *testing.T) {
	examples := []struct {
		text string
		q, n int64
		want []int64
	}{
		{"2:0a1a,1a0b", 0, 2, []int64{0, 0, 0}}, {"2:0a1a,1a0b", 1, 1, []int64{1}}, {"2:0a1a,1a0b", 1, 2, []int64{1, 0, 1}},
		{"2:0a1a,1a0b", 1, 4, []int64{1, 0, 1, 0, 0, 0, 1, 0, 0, 0, 0, 0, 0, 0, 1}}, {"3:0a1a2a,1a2a0b", 1, 2, []int64{3, 0, 0, 3}},
		{"3:0a1a2a,1a0a2b,2a1c0a,0d2a1a", 1, 2, []int64{2, 0, 0, 2}}, {"3:0a1a2a,1a0a2b,2a1c0a,0d2a1a", 2, 2, []int64{5, 0, 5, 0}},
		{"3:0a1a2a,1a0a2b,2a1c0a,0d2a1a", 3, 2, []int64{1, 1, 0, 0}}, {"3:0a1a2a,2a0a1b", 1, 3, []int64{4, 0, 0, 4, 0, 0, 0, 0, 0, 0, 0, 0, 4}},
	}
	for _, e := range examples {
		got, code := impl.PortraitOf(parse(t, e.text), e.q, e.n)
		expectList(t, fmt.Sprintf("PortraitOf(%q, %d, %d)", e.text, e.q, e.n), got, code, e.want)
	}
}

func TestPortraitOfErrors(t *testing.T) {
	check := func(what string, m impl.Machine, q int64, n int64, want int64) {
		t.Helper()
		if list, code := impl.PortraitOf(m, q, n); len(list) != 0 || code != want {
			t.Errorf("%s: PortraitOf(%d, %d) = %v, %d", what, q, n, list, code)
		}
	}
	for name, m := range badMachines() {
		check(name, m, 0, 1, impl.ErrInvalid)
		check(name, m, -1, 1, impl.ErrInvalid)
		check(name, m, 0, 5, impl.ErrInvalid)
		check(name, m, 16, 0, impl.ErrInvalid)
	}
	for _, m := range someMachines(t) {
		for _, far := range append([]int64{-1, 16, 17, m.States}, farNumbers...) {
			for n := int64(0); n <= 5; n++ {
				check(fmt.Sprint(m.States), m, far, n, impl.ErrRange)
			}
		}
		for _, far := range append([]int64{-1, 0, impl.MaxDepth + 1, 6}, farNumbers...) {
			check(fmt.Sprint(m.States), m, m.States-1, far, impl.ErrRange)
		}
	}
}

// TestPortraitsOfStatesAct compares portraits with the states that they are of.
func TestPortraitsOfStatesAct(t *testing.T) {
	for _, m := range someMachines(t) {
		inverse := must(impl.InverseMachine(m))
		for q := range min(m.States, 4) {
			for n := int64(1); n <= impl.MaxDepth; n++ {
				list := must(impl.PortraitOf(m, q, n))
				got, code := impl.PermutationOfPortrait(m.Letters, n, list)
				expectList(t, "PermutationOfPortrait", got, code, must(impl.LevelPermutation(m, q, n)))
				got, code = impl.InvertPortrait(m.Letters, n, list)
				expectList(t, "InvertPortrait", got, code, must(impl.PortraitOf(inverse, q, n)))
				for _, w := range wordsUpTo(m.Letters, 2) {
					if int64(len(w)) < n {
						got, code = impl.SectionOfPortrait(m.Letters, n, list, w)
						expectList(t, "SectionOfPortrait", got, code, must(impl.PortraitOf(m, must(impl.SectionAt(m, q, w)), n-int64(len(w)))))
					}
				}
				r := m.States - 1 - q
				got, code = impl.MultiplyPortraits(m.Letters, n, list, must(impl.PortraitOf(m, r, n)))
				images := must(impl.PermutationOf(m, []int64{q + 1, r + 1}, n))
				expectList(t, "MultiplyPortraits", got, code, must(impl.PortraitOfPermutation(m.Letters, n, images)))
			}
		}
	}
}

func TestActPortrait(t *testing.T) {
	for _, s := range allShapes() {
		for _, list := range s.some() {
			tree := treeOf(s.d, s.n, list)
			for _, w := range wordsUpTo(s.d, s.n) {
				if got, code := impl.ActPortrait(s.d, int64(s.n), list, w); got != actBy(tree, w) || code != impl.ErrNone {
					t.Errorf("ActPortrait(%v, %v, %q) = %q, %d", s, list, w, got, code)
				}
			}
		}
	}
}

func TestActPortraitExamples(t *testing.T) {
	examples := []struct {
		d, n        int64
		list        []int64
		word, image string
	}{
		{2, 3, []int64{1, 0, 1, 0, 0, 0, 1}, "110", "001"}, {2, 3, []int64{1, 0, 1, 0, 0, 0, 1}, "111", "000"}, {2, 3, []int64{1, 0, 1, 0, 0, 0, 1}, "", ""},
		{2, 3, []int64{0, 0, 0, 0, 1, 0, 0}, "011", "010"}, {2, 3, []int64{0, 0, 0, 0, 1, 0, 0}, "00", "00"}, {2, 1, []int64{1}, "0", "1"}, {3, 1, []int64{4}, "0", "2"},
		{3, 2, []int64{3, 0, 1, 4}, "01", "11"}, {3, 2, []int64{3, 0, 1, 4}, "11", "22"}, {3, 2, []int64{3, 0, 1, 4}, "20", "02"}, {3, 2, []int64{3, 0, 1, 4}, "2", "0"},
	}
	for _, e := range examples {
		if got, code := impl.ActPortrait(e.d, e.n, e.list, e.word); got != e.image || code != impl.ErrNone {
			t.Errorf("ActPortrait(%d, %d, %v, %q) = %q, %d", e.d, e.n, e.list, e.word, got, code)
		}
	}
}

// TestWordsOfPortraits gives words of all lengths, and texts that are no words.
func TestWordsOfPortraits(t *testing.T) {
	for _, s := range allShapes() {
		n, list := int64(s.n), make([]int64, s.size())
		for length := range impl.MaxWord + 1 {
			w := strings.Repeat("1", length)
			want := int64(impl.ErrNone)
			if length > s.n {
				w, want = w[1:]+"0", impl.ErrRange
			}
			got, code := impl.ActPortrait(s.d, n, list, w)
			if code != want || (got == w) != (code == impl.ErrNone) || code != impl.ErrNone && got != "" {
				t.Errorf("ActPortrait(%v, %q) = %q, %d", s, w, got, code)
			}
			if length == s.n {
				want = impl.ErrRange
			}
			section, code := impl.SectionOfPortrait(s.d, n, list, w)
			if code != want || code != impl.ErrNone && len(section) != 0 {
				t.Errorf("SectionOfPortrait(%v, %q) = %v, %d", s, w, section, code)
			}
		}
		for _, w := range append(badWords(s.d), "0x", strings.Repeat("0", 39)+"x") {
			if got, code := impl.ActPortrait(s.d, n, list, w); got != "" || code != impl.ErrInvalid {
				t.Errorf("ActPortrait(%v, %.45q) = %q, %d", s, w, got, code)
			}
			if got, code := impl.SectionOfPortrait(s.d, n, list, w); len(got) != 0 || code != impl.ErrInvalid {
				t.Errorf("SectionOfPortrait(%v, %.45q) = %v, %d", s, w, got, code)
			}
		}
	}
}

func TestSectionOfPortrait(t *testing.T) {
	for _, s := range allShapes() {
		for _, list := range s.some() {
			at := map[string]int64{}
			for i, v := range wordsUpTo(s.d, s.n-1) {
				at[v] = list[i]
			}
			for _, w := range wordsUpTo(s.d, s.n-1) {
				var want []int64
				for _, v := range wordsUpTo(s.d, s.n-len(w)-1) {
					want = append(want, at[w+v])
				}
				got, code := impl.SectionOfPortrait(s.d, int64(s.n), list, w)
				expectList(t, fmt.Sprintf("SectionOfPortrait(%v, %v, %q)", s, list, w), got, code, want)
			}
		}
	}
}

func TestSectionOfPortraitExamples(t *testing.T) {
	list := []int64{1, 0, 1, 0, 1, 1, 0}
	for w, want := range map[string][]int64{"": list, "0": {0, 0, 1}, "1": {1, 1, 0}, "00": {0}, "01": {1}, "10": {1}, "11": {0}} {
		got, code := impl.SectionOfPortrait(2, 3, list, w)
		expectList(t, fmt.Sprintf("SectionOfPortrait(%q)", w), got, code, want)
	}
	three := []int64{5, 0, 1, 2, 0, 1, 2, 3, 4, 5, 4, 3, 2}
	for w, want := range map[string][]int64{"0": {0, 0, 1, 2}, "1": {1, 3, 4, 5}, "2": {2, 4, 3, 2}, "02": {2}, "20": {4}} {
		got, code := impl.SectionOfPortrait(3, 3, three, w)
		expectList(t, fmt.Sprintf("SectionOfPortrait(%q)", w), got, code, want)
	}
}

// TestSectionsOfPortraitsLeadTheRests cuts words of the level.
func TestSectionsOfPortraitsLeadTheRests(t *testing.T) {
	for _, s := range allShapes() {
		d := dice(3)
		for range 10 {
			list := s.random(&d)
			for _, w := range wordsOf(s.d, s.n) {
				whole := must(impl.ActPortrait(s.d, int64(s.n), list, w))
				for cut := range s.n {
					section := must(impl.SectionOfPortrait(s.d, int64(s.n), list, w[:cut]))
					rest := must(impl.ActPortrait(s.d, int64(s.n-cut), section, w[cut:]))
					if must(impl.ActPortrait(s.d, int64(s.n), list, w[:cut]))+rest != whole {
						t.Errorf("%v, %v: %q is cut at %d", s, list, w, cut)
					}
				}
			}
		}
	}
}
