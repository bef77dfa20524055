package tests

import (
	"slices"
	"testing"

	"loop.example/g01244/impl"
)

// nucleusOfMachine is a machine with its nucleus, as texts, and the depth of that, or -1 if it is greater than
// MaxLevel.
type nucleusOfMachine struct {
	machine string
	words   []string
	depth   int64
}

var nuclei = []nucleusOfMachine{
	{"2:0a1a", []string{""}, 0}, {"2:1a0a", []string{"a", "aa"}, 0}, {"3:1a2a0a", []string{"a", "A", ""}, 0},
	{"2:0a1a,1a0b", []string{"", "b", "B"}, 1}, {"3:0a1a2a,1a2a0b", []string{"", "b", "B"}, 1},
	{"2:0a1a,0a1c,1a0b", []string{"", "b", "c", "B", "C", "Bc", "Cb"}, 2},
	{"2:0a1a,1a0a,0b1d,0b1e,0a1c", []string{"", "c", "b", "d", "e"}, 1},
	{"3:0a1a2a,1a2a0a,0b1c2d,2a0a1a", []string{"", "c", "b", "d", "C"}, 1},
	{"3:0a1a2a,1a0a2b,2a1c0a,0d2a1a", []string{"", "b", "c", "d"}, 1},
	{"3:0a1a2a,1a2a0a,2d1a0a,0a1a2a", []string{""}, 0},
	{"2:0a1a,1d0b,1b0a,0a1a,1b0f,0a1e", []string{"", "b", "B", "e", "f", "E", "F", "Be", "Bf", "Eb", "Fb", "Ef", "Fe"}, 5},
	{"2:0a1a,0a1f,0b1a,1a0a,0a1a,1f0c", []string{"", "b", "f", "c", "B", "F", "C", "Bf", "Fc", "Fb", "Cf"}, -1},
	// 16 words, 17 words, 28 words that are found in 5 rounds, and twice 32 words.
	{"2:1a0c,0b1e,0d1d,1e0e,1e0e", []string{"a", "c", "d", "A", "b", "ad", "cd", "da", "dd", "db", "Ab", "ba", "bd", "adb", "dba", "dbd"}, 2},
	{"2:0a1a,0a1c,1e0a,1a0a,0f1a,1b0e", []string{"", "b", "c", "e", "f", "B", "C", "E", "F", "eF", "fE", "Bf", "Ce", "Ef", "Fb", "Ec", "Fe"}, -1},
	{"3:0a1a2a,1a2a0a,2c1d0c,1b2a0a", []string{
		"", "c", "d", "b", "C", "D", "B", "cc", "dd", "CC", "DD", "ccc", "ddd", "CCC", "DDD", "cccc", "dddd", "CCCC", "DDDD",
		"ccccc", "CCCCC", "cccccc", "CCCCCC", "ccccccc", "CCCCCCC", "cccccccc", "CCCCCCCC", "ccccccccc",
	}, 2},
	{"2:1b0b,0c1c,0d1d,0e1e,0a1a", []string{
		"a", "b", "c", "d", "e", "aa", "ab", "bc", "cd", "de", "ea", "ac", "bd", "ce", "da", "eb",
		"abc", "bcd", "cde", "dea", "eab", "acd", "bde", "cea", "dab", "ebc", "abcd", "bcde", "cdea", "deab", "eabc", "abcde",
	}, 0},
	{"3:0a1a2a,2a1b0a,0a1d2a,0a1c2b", []string{
		"", "b", "c", "d", "bc", "bd", "cb", "db", "cd", "bcb", "bdb", "bcd", "cbc", "dbd", "cbd", "dbc", "cdb",
		"bcbc", "bdbd", "bcbd", "bdbc", "bcdb", "cbcd", "dbdc", "cdbc", "dcbd", "bcbcd", "bdbdc", "bcdbc", "bdcbd", "cdbdc", "bcdbdc",
	}, 0},
}

// Machines whose search would put in 33 words at the end, and others that put in many more.
var nucleiTooLarge = []string{
	"2:1b0c,0d1c,1e0b,0e1a,0e1e", "3:0a1a2a,1d0b2a,1d0a2c,0a2d1d", "2:0a1a,0a1g,1a0a,1a0e,1e0b,0f1a,1a0d", "3:0a1a2a,0a1g2a,1c2a0a,0b2e1e,2a1g0f,2a0g1a,2e0b1a",
	"2:1c0b,1b0c,0a1a", "2:0a1b,1a0b", "2:1b0b,0c1c,0d1d,0e1e,0f1f,0a1a", "3:0a2b1a,1a2b0b",
}

func TestNucleusExamples(t *testing.T) {
	for _, e := range nuclei {
		m := parse(t, e.machine)
		want := groupsOf(m, e.words...)
		if got, code := impl.NucleusOf(m); !sameWords(got, want) || code != impl.ErrNone {
			t.Errorf("NucleusOf(%s) = %v, %d, not %v", e.machine, got, code, want)
		}
		depth, code := impl.DepthOfList(m, want)
		if depth != max(e.depth, 0) || (code == impl.ErrNone) != (e.depth >= 0) || code != impl.ErrNone && code != impl.ErrNotFound {
			t.Errorf("DepthOfList(%s, nucleus) = %d, %d", e.machine, depth, code)
		}
	}
	for _, text := range nucleiTooLarge {
		if got, code := impl.NucleusOf(parse(t, text)); len(got) != 0 || code != impl.ErrLimit {
			t.Errorf("NucleusOf(%s) = %v, %d", text, got, code)
		}
		if got, code := impl.NucleusMachine(parse(t, text)); got != (impl.Machine{}) || code != impl.ErrLimit {
			t.Errorf("NucleusMachine(%s) = %v, %d", text, got, code)
		}
	}
}

func TestNucleusOf(t *testing.T) {
	found, rounds := map[int64]int{}, map[int]int{}
	for _, m := range append(nuclearMachines(t), someMachines(t)...) {
		want, round, wantCode := keeperOf(m).nucleusBy()
		if got, code := impl.NucleusOf(m); !sameWords(got, want) || code != wantCode {
			t.Errorf("NucleusOf(%v) = %v, %d, not %v, %d", m, got, code, want, wantCode)
		}
		found[wantCode]++
		rounds[round]++
	}
	if found[impl.ErrNone] < 50 || found[impl.ErrLimit] < 20 || rounds[5] == 0 {
		t.Errorf("codes %v, rounds %v", found, rounds)
	}
}

// TestNucleiAreClosed is a part of promise 4.
func TestNucleiAreClosed(t *testing.T) {
	d, closed := dice(5), 0
	list := append(nuclearMachines(t), someMachines(t)...)
	for range 300 {
		list = append(list, lightMachine(&d))
	}
	for _, m := range list {
		nucleus, code := impl.NucleusOf(m)
		if code != impl.ErrNone {
			// ErrNotFound is never met: behind k rounds all lasting words of up to 2 to the power k numbers are
			// there, and a new one has beginnings of all these lengths, all different, so that behind 5 rounds
			// there would be more than MaxNucleus words.
			sameCode(t, "NucleusOf", code, impl.ErrLimit)
			continue
		}
		closed++
		if yes, code := impl.IsClosedList(m, nucleus); !yes || code != impl.ErrNone {
			t.Errorf("IsClosedList(%v, %v) = %v, %d", m, nucleus, yes, code)
		}
		for i, g := range nucleus {
			if normal := must(impl.NormalWord(m, g)); !slices.Equal(normal, g) {
				t.Errorf("%v: %v of the nucleus is not normal", m, g)
			}
			for _, h := range nucleus[:i] {
				if must(impl.MachineOfWord(m, g)) == must(impl.MachineOfWord(m, h)) {
					t.Errorf("%v: %v and %v of the nucleus are equal", m, g, h)
				}
			}
			for _, section := range must(impl.SectionsOfLevel(m, g, 1)) {
				if !must(impl.IsInList(m, section, nucleus)) {
					t.Errorf("%v: the section %v of %v is not in the nucleus", m, section, g)
				}
			}
			if !must(impl.IsInList(m, must(impl.InverseWord(m, g)), nucleus)) {
				t.Errorf("%v: the inverse of %v is not in the nucleus", m, g)
			}
			if smaller := slices.Delete(slices.Clone(nucleus), i, i+1); must(impl.IsClosedList(m, smaller)) {
				t.Errorf("%v: the nucleus is closed without %v", m, g)
			}
		}
	}
	if closed < 200 {
		t.Errorf("%d nuclei", closed)
	}
}

// TestNucleusMachine compares the machines of nuclei with their words, state by state.
func TestNucleusMachine(t *testing.T) {
	small, large := 0, 0
	for _, m := range append(nuclearMachines(t), someMachines(t)...) {
		nucleus, code := impl.NucleusOf(m)
		got, gotCode := impl.NucleusMachine(m)
		if code != impl.ErrNone || len(nucleus) > impl.MaxStates {
			if got != (impl.Machine{}) || gotCode != impl.ErrLimit {
				t.Errorf("NucleusMachine(%v) = %v, %d", m, got, gotCode)
			}
			large++
			continue
		}
		small++
		if !impl.IsMachine(got) || got.Letters != m.Letters || got.States != int64(len(nucleus)) || gotCode != impl.ErrNone {
			t.Fatalf("NucleusMachine(%v) = %v, %d", m, got, gotCode)
		}
		for q, g := range nucleus {
			for _, w := range append(wordsUpTo(m.Letters, 3), longWords(m.Letters)[36:]...) {
				if must(impl.ActOnWord(got, int64(q), w)) != imageBy(m, g, w) {
					t.Errorf("%v: the state %d of the machine of the nucleus and %v lead %q to different words", m, q, g, w)
				}
			}
		}
	}
	if small < 30 || large < 20 {
		t.Errorf("%d machines, %d times ErrLimit", small, large)
	}
}

func TestNucleusMachineExamples(t *testing.T) {
	examples := map[string]string{
		"2:0a1a": "2:0a1a", "2:1a0a": "2:1a0a,0b1b", "3:1a2a0a": "3:1a2a0a,2b0b1b,0c1c2c", "2:0a1a,1a0b": "2:0a1a,1a0b,1c0a", "3:0a1a2a,1a2a0b": "3:0a1a2a,1a2a0b,2c0a1a",
		"2:0a1a,0a1c,1a0b": "2:0a1a,0a1c,1a0b,0a1e,1d0a,1a0g,1f0a", "2:0a1a,1a0a,0b1d,0b1e,0a1c": "2:0a1a,0c1d,1a0a,0c1e,0a1b",
		"3:0a1a2a,1a2a0a,0b1c2d,2a0a1a": "3:0a1a2a,0c1b2d,1a2a0a,2a0a1a,0d1e2c", "3:0a1a2a,1a0a2b,2a1c0a,0d2a1a": "3:0a1a2a,1a0a2b,2a1c0a,0d2a1a",
		"2:1b0b,0c1c,0d1d,0a1a":           "2:1b0b,0c1c,0d1d,0a1a,0e1e,1g0g,0h1h,0i1i,1f0f,1k0k,0j1j,1m0m,0n1n,1o0o,1l0l,1p0p",
		"2:1a0c,0b1e,0d1d,1e0e,1e0e":      "2:1a0b,0c1c,1c0c,1b0d,0e1c,0f1g,1i0i,0g1h,0i1i,1i0j,1g0k,1l0g,1m0i,0n1b,0b1o,0c1p",
		"2:0b1c,0b1b,1d0c,0d1d":           "2:0a1a,1a0b,1c0a",
		"3:1a2a0a,0b1b2b,2c0c1c":          "3:1a2a0a,2b0b1b,0c1c2c",
		"2:1b0b,0c1c,0d1d,0e1e,0a1a":      "",
		"2:0a1a,0a1c,1e0a,1a0a,0f1a,1b0e": "",
	}
	for text, want := range examples {
		got, code := impl.NucleusMachine(parse(t, text))
		if want == "" {
			if got != (impl.Machine{}) || code != impl.ErrLimit {
				t.Errorf("NucleusMachine(%s) = %v, %d", text, got, code)
			}
			continue
		}
		if name, _ := impl.MachineText(got); name != want || code != impl.ErrNone {
			t.Errorf("NucleusMachine(%s) = %q, %d, not %q", text, name, code, want)
		}
	}
}
