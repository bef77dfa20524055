package tests

import (
	"slices"
	"testing"

	"loop.example/g01244/impl"
)

// element is a machine with a group word of it, as texts.
type element struct{ machine, group string }

// Group words that are trivial, with a queue of just MaxSeen words.
var fullQueues = []element{
	{"3:1g0g2a,0e1e2f,0g1g2d,1k0k2i,1d0d2h,0l1l2c,0n1n2g,0i1i2m,0p1p2j,1l0l2a,0o1o2o,1j0j2b,1m0m2e,1o0o2a,0a1a2h,0h1h2d", "cnCN"},
	{"3:0o1o2f,0c1c2i,1k0k2h,1a0a2n,0f1f2m,0b1b2p,1h0h2g,0n1n2j,1c0c2d,0d1d2m,1e0e2b,1m0m2f,1m0m2a,1b0b2g,0f1f2c,1g0g2e", "kpKP"},
	{"3:1k0k2j,0j1j2h,1m0m2j,1h0h2k,1e0e2i,0m1m2h,0h1h2f,0g1g2e,0d1d2o,1b0b2a,1n0n2p,1k0k2c,0a1a2m,0b1b2f,0l1l2l,1p0p2f", "djDJ"},
}

// Group words that are trivial, whose queue would have one word more.
var longQueues = []element{
	{"3:1b0b2d,0g1g2o,1k0k2n,1j0j2e,1k0k2j,0c1c2a,0p1p2f,1m0m2k,0m1m2g,1d0d2i,1j0j2l,1h0h2a,1g0g2n,1e0e2n,0c1c2m,0a1a2p", "nfNF"},
	{"3:1j0j2l,1l0l2o,0l1l2i,1m0m2k,1c0c2f,0k1k2f,0d1d2k,1e0e2e,0p1p2m,0g1g2g,1f0f2n,1a0a2f,0b1b2j,0o1o2h,0e1e2i,1m0m2e", "bnBN"},
	{"3:1d0d2a,1h0h2b,1d0d2a,0b1b2h,1j0j2i,0e1e2d,1o0o2g,0c1c2m,1n0n2g,0m1m2i,1l0l2p,0p1p2e,0g1g2f,0k1k2f,0f1f2i,0i1i2i", "fkFK"},
}

// Group words that are not trivial, which is seen at a word of the queue behind many others.
var lateDifferences = []element{
	{"3:1m0m2h,1n0n2h,1n0n2p,0a1a2k,2p0p1b,1m0m2p,0i1i2f,1k0k2n,1p0p2k,0e1e2p,0p1p2f,0k1k2h,1i0i2i,0e1e2g,1m0m2p,0b1b2a", "mlML"},
	{"3:1m0m2d,1e0e2e,0a1a2h,1n0n2l,0m1m2a,2h0h1d,0l1l2m,1c0c2p,0l1l2j,0h1h2a,0b1b2f,0d1d2o,0j1j2e,0b1b2j,1k0k2h,1o0o2p", "edED"},
	{"3:2h0h1d,0b1b2k,0d1d2k,1e0e2p,1n0n2l,1j0j2b,1b0b2c,1l0l2g,1l0l2j,0k1k2h,1f0f2p,0d1d2f,0o1o2e,1j0j2a,1m0m2g,0h1h2b", "lcLC"},
}

// Group words that are not trivial, whose queue would be too long ahead of the word that shows this.
var hiddenDifferences = []element{
	{"3:0g1g2o,0f1f2b,0a1a2e,0i1i2n,0g1g2n,1k0k2b,0k1k2g,0e1e2d,0c1c2d,0b1b2l,0m1m2p,0l1l2c,0a1a2d,0i1i2p,2o0o1c,0c1c2d", "pcPC"},
	{"3:1a0a2a,0m1m2n,0e1e2j,0j1j2f,0b1b2c,1j0j2m,0o1o2b,1e0e2h,0c1c2o,0i1i2b,0o1o2g,2e0e1i,0j1j2m,0n1n2e,1i0i2l,0d1d2h", "fbFB"},
}

// testTrivial looks whether a group word is trivial, as such and as two words that may be equal.
func testTrivial(t *testing.T, m impl.Machine, g []int64, want bool, wantCode int64) {
	t.Helper()
	if got, code := impl.IsTrivialWord(m, g); got != want || code != wantCode {
		t.Errorf("IsTrivialWord(%v, %v) = %v, %d", m, g, got, code)
	}
	for _, cut := range []int{0, len(g) / 2, len(g)} {
		if got, code := impl.AreEqualWords(m, g[:cut], opposite(g[cut:])); got != want || code != wantCode {
			t.Errorf("AreEqualWords(%v, %v), cut at %d = %v, %d", m, g, cut, got, code)
		}
	}
}

func TestQueueLimit(t *testing.T) {
	for kind, list := range [][]element{fullQueues, longQueues, lateDifferences, hiddenDifferences} {
		want := []bool{true, false, false, false}[kind]
		code := []int64{impl.ErrNone, impl.ErrLimit, impl.ErrNone, impl.ErrLimit}[kind]
		for _, e := range list {
			m := parse(t, e.machine)
			testTrivial(t, m, groupOf(m, e.group), want, code)
		}
	}
	for _, e := range fullQueues {
		m := parse(t, e.machine)
		if got, code := impl.MachineOfWord(m, groupOf(m, e.group)); got != parse(t, "3:0a1a2a") || code != impl.ErrNone {
			t.Errorf("MachineOfWord(%s, %s) = %v, %d", e.machine, e.group, got, code)
		}
	}
	for _, e := range slices.Concat(longQueues, lateDifferences, hiddenDifferences) {
		m := parse(t, e.machine)
		if got, code := impl.MachineOfWord(m, groupOf(m, e.group)); got != (impl.Machine{}) || code != impl.ErrLimit {
			t.Errorf("MachineOfWord(%s, %s) = %v, %d", e.machine, e.group, got, code)
		}
	}
}

func TestIsTrivialWord(t *testing.T) {
	for i, m := range someMachines(t) {
		known := towerOf(m)
		d := dice(i)
		for range 10 {
			g, h := randomGroup(&d, m, d.roll(6)), randomGroup(&d, m, d.roll(4)+1)
			for _, word := range [][]int64{g, slices.Repeat(g, 2), slices.Repeat(g, 4), slices.Concat(opposite(g), opposite(h), g, h)} {
				_, want, code := known.queueBy(word, true)
				testTrivial(t, m, word, want, code)
			}
		}
	}
}

func TestAreEqualWords(t *testing.T) {
	for _, m := range someMachines(t) {
		known := towerOf(m)
		groups := manyGroups(m)
		for i, g := range groups {
			for _, h := range [][]int64{g, groups[(i+1)%len(groups)], groups[len(groups)-1], known.normalBy(g)} {
				_, want, wantCode := known.queueBy(slices.Concat(g, opposite(h)), true)
				if got, code := impl.AreEqualWords(m, g, h); got != want || code != wantCode {
					t.Errorf("AreEqualWords(%v, %v, %v) = %v, %d", m, g, h, got, code)
				}
			}
		}
	}
}

func TestTrivialExamples(t *testing.T) {
	examples := []struct {
		machine string
		trivial []string
		others  []string
	}{
		{"2:0a1a,1a0a,0b1d,0b1e,0a1c", []string{"", "a", "bb", "cc", "dd", "ee", "cde", "bebebebe", "aAbB", "CDE"}, []string{"b", "c", "bebe", "be", "cd", "bcbcbcbc"}},
		{"3:0a1a2a,1a2a0a,0b1c2d,2a0a1a", []string{"bbb", "ccc", "bd", "Aa"}, []string{"bb", "cc", "bc", "bD"}},
		{"3:0a1a2a,1a0a2b,2a1c0a,0d2a1a", []string{"bb", "cc", "dd"}, []string{"b", "bc", "bcd", "bcbc"}},
		{"2:0a1b,1a0b", []string{"AbAb", "BaaBbAAb"}, []string{"a", "b", "ab", "Ab", "aa"}},
		{"2:0a1a,1a0b", []string{"a", "aaaa", "bB", "Bb", "bbabaBBB"}, []string{"b", "B", "bb", "bbbbbbbbbbbbbbbb"}},
	}
	for _, e := range examples {
		m := parse(t, e.machine)
		for _, text := range e.trivial {
			testTrivial(t, m, groupOf(m, text), true, impl.ErrNone)
		}
		for _, text := range e.others {
			testTrivial(t, m, groupOf(m, text), false, impl.ErrNone)
		}
	}
}

// TestLongEqualWords compares words that have 80 numbers together, none of which cancel.
func TestLongEqualWords(t *testing.T) {
	m := parse(t, "2:1a0a,0a1b,1b0b")
	back := slices.Repeat([]int64{-3}, impl.MaxGroup)
	for text, want := range map[string]bool{"a": true, "A": true, "b": true, "B": true, "c": true, "ab": false, "aaB": false} {
		g := slices.Repeat(groupOf(m, text), impl.MaxGroup/len(text))
		if got, code := impl.AreEqualWords(m, g, back); got != want || code != impl.ErrNone {
			t.Errorf("AreEqualWords(%v, %v) = %v, %d", g, back, got, code)
		}
	}
	adder := parse(t, "2:0a1a,1a0b")
	forty, less := slices.Repeat([]int64{2}, impl.MaxGroup), slices.Repeat([]int64{-2}, impl.MaxGroup)
	for _, e := range []struct {
		g, h []int64
		want bool
	}{{forty, forty, true}, {forty, less, false}, {less, less, true}, {less, forty, false}, {forty, forty[1:], false}, {forty, append(forty[1:], 1), false}} {
		if got, code := impl.AreEqualWords(adder, e.g, e.h); got != e.want || code != impl.ErrNone {
			t.Errorf("AreEqualWords(adder, %v, %v) = %v, %d", e.g, e.h, got, code)
		}
	}
}

// TestLongWordsInQueue has words of 80 numbers in a queue that are the same from the middle on.
func TestLongWordsInQueue(t *testing.T) {
	m := parse(t, "2:0a1a,1a0b,0b1b,1d0d")
	g, h := slices.Repeat([]int64{3}, impl.MaxGroup), slices.Repeat([]int64{4}, impl.MaxGroup)
	for _, pair := range [][2][]int64{{g, h}, {h, g}, {opposite(g), h}, {opposite(h), opposite(g)}} {
		if got, code := impl.AreEqualWords(m, pair[0], pair[1]); got || code != impl.ErrNone {
			t.Errorf("AreEqualWords(%v, %v) = %v, %d", pair[0], pair[1], got, code)
		}
	}
}

// TestEqualWordsAreSearchedInOrder has words of which the first one, followed by the inverse of the
// second one, is soon seen to be not trivial, while the other way round the queue becomes too long.
func TestEqualWordsAreSearchedInOrder(t *testing.T) {
	m := parse(t, "3:0a1c2a,0e1e2a,0a1g2m,0n1h2k,0j1b2k,0b1n2e,0a1m2j,1h0g2c,0f1h2o,0b1l2p,0b1d2p,0k1n2o,0c1p2k,0j1p2g,0f1c2l,0c1n2o")
	g, h := groupOf(m, "nC"), groupOf(m, "PC")
	if got, code := impl.AreEqualWords(m, g, h); got || code != impl.ErrNone {
		t.Errorf("AreEqualWords = %v, %d", got, code)
	}
	if got, code := impl.AreEqualWords(m, opposite(h), opposite(g)); got || code != impl.ErrLimit {
		t.Errorf("AreEqualWords = %v, %d", got, code)
	}
}

func TestMachineOfWord(t *testing.T) {
	for i, m := range someMachines(t) {
		known := towerOf(m)
		d := dice(i)
		groups := [][]int64{nil, {1}, {-m.States}, randomGroup(&d, m, 2), randomGroup(&d, m, 2), randomGroup(&d, m, 3), randomGroup(&d, m, 20)}
		for q := range m.States {
			groups = append(groups, []int64{q + 1}, []int64{-q - 1})
		}
		for _, g := range groups {
			want, wantCode := known.machineBy(g)
			if got, code := impl.MachineOfWord(m, g); got != want || code != wantCode {
				t.Errorf("MachineOfWord(%v, %v) = %v, %d, not %v", m, g, got, code, want)
			}
		}
	}
}

func TestMachineOfWordExamples(t *testing.T) {
	examples := []struct{ machine, group, want string }{
		{"2:0a1a,1a0b", "", "2:0a1a"}, {"2:0a1a,1a0b", "a", "2:0a1a"}, {"2:0a1a,1a0b", "b", "2:1b0a,0b1b"}, {"2:0a1a,1a0b", "B", "2:1a0b,0b1b"},
		{"2:0a1a,1a0b", "bb", "2:0b1b,1c0b,0c1c"}, {"2:0a1a,1a0b", "bB", "2:0a1a"}, {"3:0a1a2a,1a2a0b", "b", "3:1b2b0a,0b1b2b"}, {"3:0a1a2a,1a2a0b", "", "3:0a1a2a"},
		{"2:0a1a,1a0a,0b1d,0b1e,0a1c", "cd", "2:0b1c,0b1b,0d1e,1b0b,0d1a"}, {"2:0b1a,1b0b,1a0a", "c", "2:1b0b,0c1b,1c0c"}, {"2:0b1a,1b0b,1a0a", "aA", "2:0a1a"},
	}
	for _, e := range examples {
		m := parse(t, e.machine)
		got, code := impl.MachineOfWord(m, groupOf(m, e.group))
		if text, _ := impl.MachineText(got); text != e.want || code != impl.ErrNone {
			t.Errorf("MachineOfWord(%s, %s) = %q, %d", e.machine, e.group, text, code)
		}
	}
}

// TestMachineOfWordStates looks at words with MaxStates states, and with one more.
func TestMachineOfWordStates(t *testing.T) {
	full := []element{
		{"3:1a2b0d,2e0c1d,1c0e2e,0b2c1d,2d1b0b", "Ab"}, {"3:1a2b0d,2e0c1d,1c0e2e,0b2c1d,2d1b0b", "Ea"}, {"3:0b1d2a,2a1d0a,0b2e1b,1c0e2a,1c2a0a,1f0c2d", "ab"},
		{"2:1a0d,1c0e,0g1g,1d0c,1g0c,0b1a,1b0c", "dF"}, {"2:1f0f,1f0a,0e1c,1f0a,1c0f,1a0c", "df"}, {"2:1b0d,0d1c,1d0d,1a0b", "dBD"},
	}
	for _, e := range full {
		m := parse(t, e.machine)
		want, _ := towerOf(m).machineBy(groupOf(m, e.group))
		if got, code := impl.MachineOfWord(m, groupOf(m, e.group)); got != want || got.States != impl.MaxStates || code != impl.ErrNone {
			t.Errorf("MachineOfWord(%s, %s) = %v, %d", e.machine, e.group, got, code)
		}
	}
	over := []element{
		{"3:0e2a1c,1c2c0b,0b2a1a,0b2d1e,0a2b1a", "Ed"}, {"3:0c2f1b,0e2e1f,2a1a0d,1f0e2e,1d0d2b,1b0d2d", "DC"}, {"3:1c2e0c,1b2b0e,0a1a2a,2b1d0f,1b2d0e,2e1e0b", "dC"},
		{"2:0a1b,1c0c,1a0c", "CBC"}, {"2:0c1a,0d1e,1c0e,1b0c,1e0d,1b0d", "aAba"}, {"2:0c1d,1b0c,1a0c,1a0b", "AdCB"},
	}
	for _, e := range over {
		m := parse(t, e.machine)
		if got, code := impl.MachineOfWord(m, groupOf(m, e.group)); got != (impl.Machine{}) || code != impl.ErrLimit {
			t.Errorf("MachineOfWord(%s, %s) = %v, %d", e.machine, e.group, got, code)
		}
	}
	for letters := int64(2); letters <= 3; letters++ {
		if got, code := impl.MachineOfWord(chain(letters), []int64{1}); got.States != impl.MaxStates || code != impl.ErrNone {
			t.Errorf("MachineOfWord of the chain = %v, %d", got, code)
		}
	}
}

// TestEqualWordsHaveTheSameMachine is a part of promise 2. Words are equal here if the search says
// so, and if they differ on some level they must not be.
func TestEqualWordsHaveTheSameMachine(t *testing.T) {
	compared := 0
	for i, m := range someMachines(t) {
		d := dice(i)
		groups := [][]int64{nil, {1}, {-1}, {1, 1}}
		for range 8 {
			groups = append(groups, randomGroup(&d, m, 1+d.roll(4)))
		}
		for _, g := range groups {
			one, code := impl.MachineOfWord(m, g)
			if code != impl.ErrNone {
				continue
			}
			for _, w := range longWords(m.Letters)[38:] {
				if must(impl.ActOnWord(one, 0, w)) != must(impl.ImageOf(m, g, w)) {
					t.Errorf("%v: the machine of %v leads %q to another word", m, g, w)
				}
			}
			for _, h := range groups {
				equal, code := impl.AreEqualWords(m, g, h)
				if code != impl.ErrNone {
					continue
				}
				compared++
				other, code := impl.MachineOfWord(m, h)
				if equal != (one == other && code == impl.ErrNone) {
					t.Errorf("%v: %v and %v: equal %v, machines %v, %v, %d", m, g, h, equal, one, other, code)
				}
				if _, code := impl.FirstDifference(m, g, h); equal && code != impl.ErrNotFound {
					t.Errorf("%v: %v and %v are equal and differ", m, g, h)
				}
			}
		}
	}
	if compared < 1000 {
		t.Errorf("%d words compared", compared)
	}
}
