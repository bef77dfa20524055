package tests

import (
	"slices"
	"strings"
	"testing"

	"loop.example/g01244/impl"
)

func TestGroupConstants(t *testing.T) {
	if impl.MaxGroup != 40 || impl.MaxSeen != 200 {
		t.Errorf("limits %d, %d", impl.MaxGroup, impl.MaxSeen)
	}
}

func TestIsGroupWord(t *testing.T) {
	for _, m := range someMachines(t) {
		for _, g := range manyGroups(m) {
			if !impl.IsGroupWord(m, g) {
				t.Errorf("IsGroupWord(%v, %v) = false", m, g)
			}
		}
		for _, g := range badGroups(m) {
			if impl.IsGroupWord(m, g) {
				t.Errorf("IsGroupWord(%v, %.45v) = true", m, g)
			}
		}
		for k := int64(-300); k <= 300; k++ {
			if impl.IsGroupWord(m, []int64{k}) != (k != 0 && max(k, -k) <= m.States) {
				t.Errorf("IsGroupWord(%v, {%d}) = %v", m, k, k == 0)
			}
		}
	}
	for name, m := range badMachines() {
		for _, g := range [][]int64{nil, {}, {1}, {-1}, {2}} {
			if impl.IsGroupWord(m, g) {
				t.Errorf("%s: IsGroupWord(%v) = true", name, g)
			}
		}
	}
}

func TestGroupTextExamples(t *testing.T) {
	m := chain(3)
	examples := map[string][]int64{
		"": {}, "a": {1}, "A": {-1}, "p": {16}, "P": {-16}, "bA": {2, -1}, "Ab": {-1, 2}, "aA": {1, -1}, "PoAc": {-16, 15, -1, 3},
		"abcdefghijklmnop":                 {1, 2, 3, 4, 5, 6, 7, 8, 9, 10, 11, 12, 13, 14, 15, 16},
		"ABCDEFGHIJKLMNOP":                 {-1, -2, -3, -4, -5, -6, -7, -8, -9, -10, -11, -12, -13, -14, -15, -16},
		strings.Repeat("p", impl.MaxGroup): slices.Repeat([]int64{16}, impl.MaxGroup),
	}
	for text, g := range examples {
		if got, code := impl.GroupText(m, g); got != text || code != impl.ErrNone {
			t.Errorf("GroupText(%v) = %q, %d", g, got, code)
		}
		if got, code := impl.ParseGroup(m, text); !slices.Equal(got, g) || code != impl.ErrNone {
			t.Errorf("ParseGroup(%q) = %v, %d", text, got, code)
		}
	}
	if got, code := impl.GroupText(m, nil); got != "" || code != impl.ErrNone {
		t.Errorf("GroupText of nil = %q, %d", got, code)
	}
}

// TestGroupsComeBack is a part of promise 2.
func TestGroupsComeBack(t *testing.T) {
	for _, m := range someMachines(t) {
		for _, g := range manyGroups(m) {
			text := must(impl.GroupText(m, g))
			if back, code := impl.ParseGroup(m, text); !slices.Equal(back, g) || code != impl.ErrNone || len(text) != len(g) {
				t.Errorf("%v: %v became %q, and %v, %d", m, g, text, back, code)
			}
		}
	}
}

// TestParseGroupEveryByte gives each byte to machines of all sizes.
func TestParseGroupEveryByte(t *testing.T) {
	const letters = "abcdefghijklmnop"
	for states := int64(1); states <= impl.MaxStates; states++ {
		d := dice(states)
		m := randomMachine(&d, 2+states%2, states, 6)
		known := letters[:states] + strings.ToUpper(letters[:states])
		for b := range 256 {
			for _, text := range []string{string([]byte{byte(b)}), string([]byte{'a', byte(b)}), string([]byte{byte(b), 'A'})} {
				want := int64(impl.ErrSyntax)
				if strings.IndexByte(known, byte(b)) >= 0 {
					want = impl.ErrNone
				}
				g, code := impl.ParseGroup(m, text)
				if code != want || len(g) != 0 && code != impl.ErrNone {
					t.Errorf("%d states: ParseGroup(%q) = %v, %d", states, text, g, code)
				}
			}
		}
	}
}

func TestParseGroupErrors(t *testing.T) {
	m := parse(t, "2:0a1a,1a0b")
	texts := []string{
		"-", " ", "c", "C", "aC", "a b", " a", "a ", "a\n", "a,b", "1", "-1", "{1}", "a\x00", "\xe1", "\u00e1", "\uff41", "q", "Q", "`", "@",
		strings.Repeat("a", impl.MaxGroup+1), strings.Repeat("B", 100000), strings.Repeat("a", impl.MaxGroup) + "\n", strings.Repeat("a", impl.MaxGroup-1) + "c",
	}
	for _, text := range texts {
		if g, code := impl.ParseGroup(m, text); len(g) != 0 || code != impl.ErrSyntax {
			t.Errorf("ParseGroup(%.45q) = %v, %d", text, g, code)
		}
	}
	for name, m := range badMachines() {
		for _, text := range append(texts, "", "a", "A") {
			if g, code := impl.ParseGroup(m, text); len(g) != 0 || code != impl.ErrInvalid {
				t.Errorf("%s: ParseGroup(%.45q) = %v, %d", name, text, g, code)
			}
		}
	}
}
