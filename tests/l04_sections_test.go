package tests

import (
	"slices"
	"testing"

	"loop.example/g01244/impl"
)

func TestNucleusConstants(t *testing.T) {
	if impl.MaxNucleus != 32 || impl.MaxRounds != 6 {
		t.Errorf("limits %d, %d", impl.MaxNucleus, impl.MaxRounds)
	}
}

// lengthsOf returns the greatest numbers of numbers of the sections of the levels 0 to n.
func lengthsOf(sections [][][]int64) []int64 {
	var lengths []int64
	for _, list := range sections {
		greatest := 0
		for _, section := range list {
			greatest = max(greatest, len(section))
		}
		lengths = append(lengths, int64(greatest))
	}
	return lengths
}

func TestSectionsOfLevel(t *testing.T) {
	for i, m := range someMachines(t) {
		known := keeperOf(m)
		for _, g := range manyGroups(m) {
			// The deepest levels are looked at for some machines only: the definition is slow there.
			deepest := 3
			if i%8 == 0 && len(g) < 9 {
				deepest = impl.MaxLevel
			}
			var sections [][][]int64
			for n := 0; n <= deepest; n++ {
				want := known.sectionsBy(g, n)
				sections = append(sections, want)
				if got, code := impl.SectionsOfLevel(m, g, int64(n)); !sameWords(got, want) || code != impl.ErrNone {
					t.Errorf("SectionsOfLevel(%v, %v, %d) = %v, %d, not %v", m, g, n, got, code, want)
				}
			}
			for n := range sections {
				want := lengthsOf(sections[:n+1])
				if got, code := impl.SectionLengths(m, g, int64(n)); !slices.Equal(got, want) || code != impl.ErrNone {
					t.Errorf("SectionLengths(%v, %v, %d) = %v, %d, not %v", m, g, n, got, code, want)
				}
			}
		}
	}
}

// TestSectionsOfTheDeepestLevel compares with the functions of chapter 2, for all machines.
func TestSectionsOfTheDeepestLevel(t *testing.T) {
	for _, m := range someMachines(t) {
		for _, g := range [][]int64{nil, {1}, {-m.States}, manyGroups(m)[9], slices.Repeat([]int64{1, m.States}, impl.MaxGroup/2)} {
			var want [][]int64
			for _, w := range wordsOf(m.Letters, impl.MaxLevel) {
				section := must(impl.NormalWord(m, must(impl.SectionOf(m, g, w))))
				if !slices.ContainsFunc(want, func(other []int64) bool { return slices.Equal(section, other) }) {
					want = append(want, section)
				}
			}
			if got, code := impl.SectionsOfLevel(m, g, impl.MaxLevel); !sameWords(got, want) || code != impl.ErrNone {
				t.Errorf("SectionsOfLevel(%v, %v, 5) = %v, %d, not %v", m, g, got, code, want)
			}
		}
	}
}

func TestSectionsOfLevelExamples(t *testing.T) {
	examples := []struct {
		machine, group string
		level          int64
		sections       []string
		lengths        []int64
	}{
		{"2:0a1a,1a0b", "", 0, []string{""}, []int64{0}}, {"2:0a1a,1a0b", "", 5, []string{""}, []int64{0, 0, 0, 0, 0, 0}},
		{"2:0a1a,1a0b", "b", 1, []string{"", "b"}, []int64{1, 1}}, {"2:0a1a,1a0b", "B", 1, []string{"B", ""}, []int64{1, 1}},
		{"2:0a1a,1a0b", "abBaB", 0, []string{"B"}, []int64{1}}, {"2:0a1a,1a0b", "bb", 2, []string{"", "b"}, []int64{2, 1, 1}},
		{"2:0a1a,1a0b", "bbbbbbbbbbbbbbbbbbbbbbbbbbbbbbbbbbbbbbbb", 5, []string{"b", "bb"}, []int64{40, 20, 10, 5, 3, 2}},
		{"2:0a1a,0a1c,1a0b", "bc", 3, []string{"", "b", "c"}, []int64{2, 2, 1, 1}}, {"2:0a1a,0a1c,1a0b", "cbC", 2, []string{"", "b"}, []int64{3, 1, 1}},
		{"2:1c0b,1b0c,0a1a", "ab", 1, []string{"cc", "bb"}, []int64{2, 2}}, {"2:0a1b,1a0b", "aB", 2, []string{"aB", "bA"}, []int64{2, 2, 2}},
		{"3:0a1a2a,1a0a2b,2a1c0a,0d2a1a", "bcd", 1, []string{"c", "", "bd"}, []int64{3, 2}}, {"3:0a1a2a,1a2a0b", "bbb", 5, []string{"", "b"}, []int64{3, 1, 1, 1, 1, 1}},
	}
	for _, e := range examples {
		m := parse(t, e.machine)
		if got, code := impl.SectionsOfLevel(m, groupOf(m, e.group), e.level); !sameWords(got, groupsOf(m, e.sections...)) || code != impl.ErrNone {
			t.Errorf("SectionsOfLevel(%s, %s, %d) = %v, %d", e.machine, e.group, e.level, got, code)
		}
		if got, code := impl.SectionLengths(m, groupOf(m, e.group), e.level); !slices.Equal(got, e.lengths) || code != impl.ErrNone {
			t.Errorf("SectionLengths(%s, %s, %d) = %v, %d", e.machine, e.group, e.level, got, code)
		}
	}
}

// TestSectionsHaveNoLimit asks for sections of words whose queue is too long.
func TestSectionsHaveNoLimit(t *testing.T) {
	for _, e := range slices.Concat(longQueues, hiddenDifferences) {
		m := parse(t, e.machine)
		g := groupOf(m, e.group)
		for n := int64(0); n <= impl.MaxLevel; n++ {
			list, code := impl.SectionsOfLevel(m, g, n)
			if want := keeperOf(m).sectionsBy(g, int(n)); !sameWords(list, want) || code != impl.ErrNone {
				t.Errorf("SectionsOfLevel(%s, %s, %d) = %v, %d", e.machine, e.group, n, list, code)
			}
			if got, code := impl.SectionLengths(m, g, n); int64(len(got)) != n+1 || code != impl.ErrNone {
				t.Errorf("SectionLengths(%s, %s, %d) = %v, %d", e.machine, e.group, n, got, code)
			}
		}
	}
}

// TestLengthsDoNotGrow is a part of promise 4.
func TestLengthsDoNotGrow(t *testing.T) {
	for _, m := range append(someMachines(t), nuclearMachines(t)...) {
		for _, g := range manyGroups(m) {
			lengths := must(impl.SectionLengths(m, g, impl.MaxLevel))
			if len(lengths) != impl.MaxLevel+1 || lengths[0] != int64(len(must(impl.NormalWord(m, g)))) {
				t.Errorf("SectionLengths(%v, %v, 5) = %v", m, g, lengths)
			}
			for n, length := range lengths {
				if n > 0 && length > lengths[n-1] {
					t.Errorf("SectionLengths(%v, %v, 5) = %v", m, g, lengths)
				}
				greatest := lengthsOf([][][]int64{must(impl.SectionsOfLevel(m, g, int64(n)))})
				if greatest[0] != length {
					t.Errorf("SectionLengths(%v, %v, 5) = %v, but on the level %d %d", m, g, lengths, n, greatest)
				}
			}
		}
	}
}

func TestLastingSections(t *testing.T) {
	for i, m := range append(someMachines(t), nuclearMachines(t)...) {
		known := keeperOf(m)
		d := dice(i)
		groups := append(known.statesBy(), nil, randomGroup(&d, m, 2), randomGroup(&d, m, 3), randomGroup(&d, m, 4), randomGroup(&d, m, 7), randomGroup(&d, m, impl.MaxGroup))
		for _, g := range groups {
			want, wantCode := known.lastingBy(g)
			if got, code := impl.LastingSections(m, g); !sameWords(got, want) || code != wantCode {
				t.Errorf("LastingSections(%v, %v) = %v, %d, not %v, %d", m, g, got, code, want, wantCode)
			}
		}
	}
}

func TestLastingSectionsExamples(t *testing.T) {
	examples := []struct {
		machine, group string
		lasting        []string
	}{
		{"2:0a1a,1a0b", "", []string{""}}, {"2:0a1a,1a0b", "a", []string{""}}, {"2:0a1a,1a0b", "b", []string{"b", ""}}, {"2:0a1a,1a0b", "B", []string{"B", ""}},
		{"2:0a1a,1a0b", "bb", []string{"b", ""}}, {"2:0a1a,1a0b", "bB", []string{""}}, {"2:1a0a", "a", []string{"a"}}, {"2:1a0a", "aa", []string{"aa"}},
		{"2:0a1a,1a0a", "b", []string{""}}, {"2:0b1c,0b1b,1d0c,0d1d,0e1f,1f0f", "a", []string{"", "c"}},
		{"2:0a1a,0a1c,1a0b", "bc", []string{"", "c", "b"}}, {"2:0a1a,0a1c,1a0b", "Bc", []string{"Bc", "", "Cb"}}, {"2:0a1a,1a0a,0b1d,0b1e,0a1c", "c", []string{"c", "b", "d", "", "e"}},
		{"2:0a1a,1a0a,0b1d,0b1e,0a1c", "b", []string{""}}, {"2:0a1a,1a0a,0b1d,0b1e,0a1c", "cd", []string{"cd", "bb", "de", "", "b", "ec"}},
		{"3:0a1a2a,1a0a2b,2a1c0a,0d2a1a", "bcd", []string{"c", "", "d", "b"}}, {"2:0a1b,1a0b", "aB", []string{"aB", "bA"}},
	}
	for _, e := range examples {
		m := parse(t, e.machine)
		if got, code := impl.LastingSections(m, groupOf(m, e.group)); !sameWords(got, groupsOf(m, e.lasting...)) || code != impl.ErrNone {
			t.Errorf("LastingSections(%s, %s) = %v, %d", e.machine, e.group, got, code)
		}
	}
}

// TestLastingSectionsLimit has queues of MaxSeen words, and of one more.
func TestLastingSectionsLimit(t *testing.T) {
	for _, e := range fullQueues {
		m := parse(t, e.machine)
		want, _ := keeperOf(m).lastingBy(groupOf(m, e.group))
		if got, code := impl.LastingSections(m, groupOf(m, e.group)); !sameWords(got, want) || len(got) == 0 || code != impl.ErrNone {
			t.Errorf("LastingSections(%s, %s) = %v, %d", e.machine, e.group, got, code)
		}
	}
	for _, e := range slices.Concat(longQueues, lateDifferences, hiddenDifferences) {
		m := parse(t, e.machine)
		if got, code := impl.LastingSections(m, groupOf(m, e.group)); len(got) != 0 || code != impl.ErrLimit {
			t.Errorf("LastingSections(%s, %s) = %v, %d", e.machine, e.group, got, code)
		}
	}
}

// TestLastingSectionsLast follows words of lasting sections: sections of them last, too, and behind
// many letters all sections do.
func TestLastingSectionsLast(t *testing.T) {
	for _, m := range nuclearMachines(t) {
		for _, g := range [][]int64{{1}, {-m.States}, {1, m.States}, {m.States, -1, m.States}} {
			lasting, code := impl.LastingSections(m, g)
			if code != impl.ErrNone {
				continue
			}
			has := func(section []int64) bool {
				return slices.ContainsFunc(lasting, func(other []int64) bool { return slices.Equal(section, other) })
			}
			for _, section := range lasting {
				for _, next := range must(impl.SectionsOfLevel(m, section, 1)) {
					if !has(next) {
						t.Errorf("%v: %v is a section of %v, but does not last in %v", m, next, section, g)
					}
				}
			}
			for _, w := range longWords(m.Letters) {
				// More letters than a queue has words.
				section := g
				for range impl.MaxSeen/impl.MaxWord + 1 {
					section = must(impl.SectionOf(m, section, (w + w + w + longWords(m.Letters)[0])[:impl.MaxWord]))
				}
				if !has(must(impl.NormalWord(m, section))) {
					t.Errorf("%v: %v is met by %v behind all letters, but does not last", m, section, g)
				}
			}
		}
	}
}
