package tests

import (
	"slices"
	"testing"

	"loop.example/g01244/impl"
)

func TestKnownNames(t *testing.T) {
	var want []string
	for _, r := range records {
		want = append(want, r.name)
	}
	for range 2 {
		names := impl.KnownNames()
		if !slices.Equal(names, want) {
			t.Errorf("KnownNames() = %v", names)
		}
		// The second call may not notice this.
		clear(names[:cap(names)])
	}
}

func TestKnownMachine(t *testing.T) {
	for _, r := range records {
		m, code := impl.KnownMachine(r.name)
		expectMachine(t, "KnownMachine("+r.name+")", m, code, parse(t, r.text), impl.ErrNone)
		if text, code := impl.MachineText(m); text != r.text || code != impl.ErrNone {
			t.Errorf("MachineText of %s = %q, %d, not %q", r.name, text, code, r.text)
		}
		if !impl.IsMachine(m) {
			t.Errorf("KnownMachine(%s) = %v, which is no machine", r.name, m)
		}
	}
}

// TestKnownMachineEntries has two machines written out, one for each number of letters.
func TestKnownMachineEntries(t *testing.T) {
	want := map[string]impl.Machine{
		"grigorchuk": {Letters: 2, States: 5, Next: [16][3]byte{{0, 0}, {0, 0}, {1, 3}, {1, 4}, {0, 2}}, Out: [16][3]byte{{0, 1}, {1, 0}, {0, 1}, {0, 1}, {0, 1}}},
		"hanoi":      {Letters: 3, States: 4, Next: [16][3]byte{{0, 0, 0}, {0, 0, 1}, {0, 2, 0}, {3, 0, 0}}, Out: [16][3]byte{{0, 1, 2}, {1, 0, 2}, {2, 1, 0}, {0, 2, 1}}},
	}
	for name, machine := range want {
		m, code := impl.KnownMachine(name)
		expectMachine(t, "KnownMachine("+name+")", m, code, machine, impl.ErrNone)
	}
}

func TestKnownNamesAlone(t *testing.T) {
	for _, name := range unknownNames() {
		short := name[:min(len(name), 30)]
		m, code := impl.KnownMachine(name)
		expectMachine(t, "KnownMachine("+short+")", m, code, impl.Machine{}, impl.ErrNotFound)
		if list, code := impl.KnownRelations(name); len(list) != 0 || code != impl.ErrNotFound {
			t.Errorf("KnownRelations(%q) = %v, %d", short, list, code)
		}
	}
}

func TestKnownRelations(t *testing.T) {
	for _, r := range records {
		for range 2 {
			list, code := impl.KnownRelations(r.name)
			if !slices.Equal(list, r.relations) || code != impl.ErrNone {
				t.Errorf("KnownRelations(%s) = %v, %d, not %v", r.name, list, code, r.relations)
			}
			// The second call may not notice this.
			clear(list[:cap(list)])
		}
	}
}

// TestLastRelation makes the commutator that the document tells by its parts.
func TestLastRelation(t *testing.T) {
	m := parse(t, lamplighter)
	commutator := must(impl.CommutatorOf(m, groupOf(m, "Ab"), groupOf(m, "AAba")))
	list := must(impl.KnownRelations("lamplighter"))
	if text := must(impl.GroupText(m, commutator)); len(list) != 2 || list[1] != text {
		t.Errorf("KnownRelations(lamplighter) = %v, but the commutator is %s", list, text)
	}
}

// relationsOf returns the relations of a known machine as group words of it.
func relationsOf(t *testing.T, name string) (impl.Machine, [][]int64) {
	t.Helper()
	m := must(impl.KnownMachine(name))
	var list [][]int64
	for _, text := range must(impl.KnownRelations(name)) {
		list = append(list, groupOf(m, text))
	}
	return m, list
}

// TestRelationsOfKnownMachinesHold is the first half of promise 8.
func TestRelationsOfKnownMachinesHold(t *testing.T) {
	for _, r := range records {
		m, list := relationsOf(t, r.name)
		if holds, code := impl.DoRelationsHold(m, list); !holds || code != impl.ErrNone {
			t.Errorf("%s: DoRelationsHold(%v) = %v, %d", r.name, list, holds, code)
		}
		for _, g := range list {
			if _, trivial, code := towerOf(m).queueBy(g, true); !trivial || code != impl.ErrNone {
				t.Errorf("%s: %v is %v, %d", r.name, g, trivial, code)
			}
			for _, w := range wordsUpTo(m.Letters, impl.MaxLevel) {
				if v := imageBy(m, g, w); v != w {
					t.Errorf("%s: %v leads %s to %s", r.name, g, w, v)
				}
			}
		}
	}
}

// TestShortWordsAreNoRelations looks at parts of relations, which are not trivial.
func TestShortWordsAreNoRelations(t *testing.T) {
	parts := map[string][]string{
		"grigorchuk":  {"b", "c", "d", "e", "cd", "de", "bebebe", "be", "bcbc", "bdbd"},
		"gupta":       {"b", "c", "d", "bb", "cc", "bc", "bbd"},
		"hanoi":       {"b", "c", "d", "bc", "bcbc", "bcd", "bcbcbc"},
		"lamplighter": {"a", "b", "Ab", "AAba", "aa", "bb", "ABab"},
		"adding":      {"b", "bb", "bbbbbbbb", "B"},
		"adding3":     {"b", "bbb", "bbbbbbbbb"},
		"aleshin":     {"a", "b", "c", "aa", "ab", "abc", "bc"},
		"basilica":    {"b", "c", "bc", "BCbc"},
	}
	for name, texts := range parts {
		m, list := relationsOf(t, name)
		for _, text := range texts {
			g := groupOf(m, text)
			for _, words := range [][][]int64{{g}, append(slices.Clone(list), g), append([][]int64{g}, list...)} {
				if holds, code := impl.DoRelationsHold(m, words); holds || code != impl.ErrNone {
					t.Errorf("%s: DoRelationsHold(%v) = %v, %d", name, words, holds, code)
				}
			}
		}
	}
}
