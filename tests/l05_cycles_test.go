package tests

import (
	"testing"

	"loop.example/g01244/impl"
)

func TestCycles(t *testing.T) {
	turns := map[bool]int{}
	eachLevel(t, func(m impl.Machine, n int64, known level) {
		var fixed []int64
		for q := range m.States {
			want := known.cyclesBy(q)
			got, code := impl.CycleType(m, q, n)
			expectList(t, "CycleType", got, code, want)
			one := len(want) == 1
			if got, code := impl.TurnsLevel(m, q, n); got != one || code != impl.ErrNone {
				t.Errorf("TurnsLevel(%v, %d, %d) = %v, %d", m, q, n, got, code)
			}
			turns[one]++
			left := int64(0)
			for _, length := range want {
				if length == 1 {
					left++
				}
			}
			fixed = append(fixed, left)
		}
		got, code := impl.FixedWords(m, n)
		expectList(t, "FixedWords", got, code, fixed)
	})
	if turns[true] < 100 || turns[false] < 100 {
		t.Errorf("states turn levels or not: %v", turns)
	}
}

func TestCyclesExamples(t *testing.T) {
	examples := []struct {
		machine  string
		q, level int64
		lengths  []int64
		fixed    []int64
	}{
		{"2:0a1a", 0, 0, []int64{1}, []int64{1}}, {"2:1a0a", 0, 0, []int64{1}, []int64{1}}, {"2:0a1a", 0, 1, []int64{1, 1}, []int64{2}}, {"2:1a0a", 0, 1, []int64{2}, []int64{0}}, {"2:1a0a", 0, 2, []int64{2, 2}, []int64{0}},
		{"2:0a1a,1a0b", 1, 3, []int64{8}, []int64{8, 0}}, {"2:0a1a,1a0b", 1, 5, []int64{32}, []int64{32, 0}}, {"2:0b1a,1a0b", 0, 2, []int64{1, 1, 2}, []int64{2, 0}},
		{"2:0a1a,0a1c,1a0a", 1, 3, []int64{1, 1, 1, 1, 2, 2}, []int64{8, 4, 0}}, {"3:0a1a2a", 0, 0, []int64{1}, []int64{1}}, {"3:1a0a2a", 0, 1, []int64{1, 2}, []int64{1}}, {"3:0a2a1a", 0, 2, []int64{1, 2, 2, 2, 2}, []int64{1}},
		{"3:0a1a2a,1a2a0b", 1, 2, []int64{9}, []int64{9, 0}}, {"3:0a1a2a,1a0a2b,1a2a0a", 1, 2, []int64{1, 2, 2, 2, 2}, []int64{9, 1, 0}},
	}
	for _, e := range examples {
		m := parse(t, e.machine)
		got, code := impl.CycleType(m, e.q, e.level)
		expectList(t, "CycleType of "+e.machine, got, code, e.lengths)
		if got, code := impl.TurnsLevel(m, e.q, e.level); got != (len(e.lengths) == 1) || code != impl.ErrNone {
			t.Errorf("TurnsLevel(%s, %d, %d) = %v, %d", e.machine, e.q, e.level, got, code)
		}
		got, code = impl.FixedWords(m, e.level)
		expectList(t, "FixedWords of "+e.machine, got, code, e.fixed)
	}
}

// TestTurnsGoOverLevels compares with the orbits of words of chapter 1.
func TestTurnsGoOverLevels(t *testing.T) {
	for _, m := range graphMachines(t) {
		for q := range m.States {
			for n := range deepestOf(m) + 1 {
				words := wordsOf(m.Letters, int(n))
				orbit := must(impl.OrbitOfWord(m, q, words[0]))
				if got := must(impl.TurnsLevel(m, q, n)); got != (len(orbit) == len(words)) {
					t.Errorf("TurnsLevel(%v, %d, %d) = %v", m, q, n, got)
				}
			}
		}
	}
}
