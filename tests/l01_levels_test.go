package tests

import (
	"slices"
	"strings"
	"testing"

	"loop.example/g01244/impl"
)

func TestLevelPermutation(t *testing.T) {
	for _, m := range manyMachines() {
		for n := 0; n <= impl.MaxLevel; n++ {
			words := wordsOf(m.Letters, n)
			for q := range min(m.States, 3) {
				got, code := impl.LevelPermutation(m, q, int64(n))
				if code != impl.ErrNone || len(got) != len(words) {
					t.Fatalf("LevelPermutation(%v, %d, %d) = %v, %d", m, q, n, got, code)
				}
				for k, w := range words {
					if got[k] < 0 || got[k] >= int64(len(words)) || words[got[k]] != led(m, q, w) {
						t.Fatalf("LevelPermutation(%v, %d, %d) = %v", m, q, n, got)
					}
				}
			}
		}
	}
}

func TestLevelPermutationExamples(t *testing.T) {
	adder, adder3 := parse(t, "2:0a1a,1a0b"), parse(t, "3:0a1a2a,1a2a0b")
	examples := []struct {
		m    impl.Machine
		q, n int64
		want []int64
	}{
		{adder, 1, 0, []int64{0}},
		{adder, 1, 1, []int64{1, 0}},
		{adder, 1, 2, []int64{2, 3, 1, 0}},
		{adder, 0, 2, []int64{0, 1, 2, 3}},
		{adder3, 1, 1, []int64{1, 2, 0}},
		{adder3, 1, 2, []int64{3, 4, 5, 6, 7, 8, 1, 2, 0}},
	}
	for _, e := range examples {
		if got, code := impl.LevelPermutation(e.m, e.q, e.n); !slices.Equal(got, e.want) || code != impl.ErrNone {
			t.Errorf("LevelPermutation(%v, %d, %d) = %v, %d", e.m, e.q, e.n, got, code)
		}
	}
}

func TestLevelPermutationErrors(t *testing.T) {
	check := func(what string, m impl.Machine, q int64, n int64, want int64) {
		t.Helper()
		if list, code := impl.LevelPermutation(m, q, n); len(list) != 0 || code != want {
			t.Errorf("%s: LevelPermutation(%d, %d) = %v, %d", what, q, n, list, code)
		}
	}
	for name, m := range badMachines() {
		check(name, m, 0, 1, impl.ErrInvalid)
		check(name, m, -1, 6, impl.ErrInvalid)
	}
	for _, text := range machineTexts {
		m := parse(t, text)
		for _, far := range append([]int64{-1}, farNumbers...) {
			check(text, m, far, 0, impl.ErrRange)
			check(text, m, 0, far, impl.ErrRange)
		}
		check(text, m, m.States, 0, impl.ErrRange)
		check(text, m, 0, impl.MaxLevel+1, impl.ErrRange)
	}
}

func TestWordsAndNumbers(t *testing.T) {
	for d := int64(2); d <= 3; d++ {
		for n := 0; n <= impl.MaxLevel; n++ {
			words := wordsOf(d, n)
			for k, want := range words {
				if w, code := impl.WordOfNumber(d, int64(n), int64(k)); w != want || code != impl.ErrNone {
					t.Errorf("WordOfNumber(%d, %d, %d) = %q, %d", d, n, k, w, code)
				}
				if got, code := impl.NumberOfWord(d, want); got != int64(k) || code != impl.ErrNone {
					t.Errorf("NumberOfWord(%d, %q) = %d, %d", d, want, got, code)
				}
			}
			for _, k := range append([]int64{-1, int64(len(words))}, farNumbers...) {
				if w, code := impl.WordOfNumber(d, int64(n), k); w != "" || code != impl.ErrRange {
					t.Errorf("WordOfNumber(%d, %d, %d) = %q, %d", d, n, k, w, code)
				}
			}
		}
	}
}

func TestWordOfNumberErrors(t *testing.T) {
	for _, d := range append([]int64{-3, -2, -1, 0, 1, 4, 10}, farNumbers...) {
		for _, n := range []int64{-1, 0, 1, 5, 6} {
			if w, code := impl.WordOfNumber(d, n, 0); w != "" || code != impl.ErrRange {
				t.Errorf("WordOfNumber(%d, %d, 0) = %q, %d", d, n, w, code)
			}
		}
	}
	for _, n := range append([]int64{-2, -1, 6, 7, 40}, farNumbers...) {
		for d := int64(2); d <= 3; d++ {
			if w, code := impl.WordOfNumber(d, n, 0); w != "" || code != impl.ErrRange {
				t.Errorf("WordOfNumber(%d, %d, 0) = %q, %d", d, n, w, code)
			}
		}
	}
}

func TestNumberOfWordErrors(t *testing.T) {
	check := func(d int64, w string, want int64) {
		t.Helper()
		if k, code := impl.NumberOfWord(d, w); k != 0 || code != want {
			t.Errorf("NumberOfWord(%d, %.45q) = %d, %d, not %d", d, w, k, code, want)
		}
	}
	for _, d := range append([]int64{-3, -2, -1, 0, 1, 4, 10}, farNumbers...) {
		for _, w := range []string{"", "0", "x", "111111", strings.Repeat("1", 41)} {
			check(d, w, impl.ErrRange)
		}
	}
	for d := int64(2); d <= 3; d++ {
		for _, w := range append(badWords(d), "00000x", "1/1", "11:11") {
			check(d, w, impl.ErrInvalid)
		}
		for n := impl.MaxLevel + 1; n <= impl.MaxWord; n++ {
			check(d, strings.Repeat("1", n), impl.ErrLimit)
		}
	}
}

func TestOrbitOfWord(t *testing.T) {
	for _, m := range manyMachines() {
		for q := range min(m.States, 4) {
			for _, w := range append(wordsUpTo(m.Letters, 2), wordsOf(m.Letters, 5)[:20]...) {
				want := []string{w}
				for v := led(m, q, w); v != w; v = led(m, q, v) {
					want = append(want, v)
				}
				if got, code := impl.OrbitOfWord(m, q, w); !slices.Equal(got, want) || code != impl.ErrNone {
					t.Errorf("OrbitOfWord(%v, %d, %q) = %v, %d", m, q, w, got, code)
				}
			}
		}
	}
}

func TestOrbitOfWordExamples(t *testing.T) {
	adder, adder3 := parse(t, "2:0a1a,1a0b"), parse(t, "3:0a1a2a,1a2a0b")
	if got, code := impl.OrbitOfWord(adder, 1, "01"); !slices.Equal(got, []string{"01", "11", "00", "10"}) || code != impl.ErrNone {
		t.Errorf("OrbitOfWord = %v, %d", got, code)
	}
	for _, q := range []int64{0, 1} {
		if got, code := impl.OrbitOfWord(adder, q, ""); !slices.Equal(got, []string{""}) || code != impl.ErrNone {
			t.Errorf("OrbitOfWord of the empty word = %q, %d", got, code)
		}
	}
	if got, code := impl.OrbitOfWord(adder, 0, "01101"); !slices.Equal(got, []string{"01101"}) || code != impl.ErrNone {
		t.Errorf("OrbitOfWord of a word that is left = %v, %d", got, code)
	}
	if got, code := impl.OrbitOfWord(adder, 1, "11111"); len(got) != 32 || code != impl.ErrNone {
		t.Errorf("OrbitOfWord on level 5 has %d words, %d", len(got), code)
	}
	if got, code := impl.OrbitOfWord(adder3, 1, "00000"); len(got) != 243 || code != impl.ErrNone {
		t.Errorf("OrbitOfWord on level 5 has %d words, %d", len(got), code)
	}
	for n := impl.MaxLevel + 1; n <= impl.MaxWord; n++ {
		if got, code := impl.OrbitOfWord(adder, 0, strings.Repeat("0", n)); len(got) != 0 || code != impl.ErrLimit {
			t.Errorf("OrbitOfWord of %d letters = %v, %d", n, got, code)
		}
	}
}

// TestResultsAreNew spoils the lists that are returned: a second call must not notice.
func TestResultsAreNew(t *testing.T) {
	m := parse(t, "2:0b1b,0a1a,1a0c,1b0c")
	for range 2 {
		trivial, _ := impl.TrivialStates(m)
		_, numbers, _ := impl.MinimalMachine(m)
		images, _ := impl.LevelPermutation(m, 2, 2)
		orbit, _ := impl.OrbitOfWord(m, 2, "00")
		if !slices.Equal(trivial, []int64{0, 1}) || !slices.Equal(numbers, []int64{0, 0, 1, 1}) || !slices.Equal(images, []int64{2, 3, 1, 0}) || !slices.Equal(orbit, []string{"00", "10", "01", "11"}) {
			t.Errorf("%v, %v, %v, %v", trivial, numbers, images, orbit)
		}
		for _, list := range [][]int64{trivial, numbers, images} {
			for i := range list {
				list[i] = -7
			}
		}
		clear(orbit)
	}
}
