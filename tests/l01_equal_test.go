package tests

import (
	"slices"
	"testing"

	"loop.example/g01244/impl"
)

// minimalOf returns the minimal machine and the numbers of the states in it.
func minimalOf(t *testing.T, m impl.Machine) (impl.Machine, []int64) {
	t.Helper()
	minimal, numbers, code := impl.MinimalMachine(m)
	if code != impl.ErrNone || !impl.IsMachine(minimal) || int64(len(numbers)) != m.States || minimal.Letters != m.Letters {
		t.Fatalf("MinimalMachine(%v) = %v, %v, %d", m, minimal, numbers, code)
	}
	for _, number := range numbers {
		if number < 0 || number >= minimal.States {
			t.Fatalf("MinimalMachine(%v) = %v, %v", m, minimal, numbers)
		}
	}
	return minimal, numbers
}

func TestAreEqualStates(t *testing.T) {
	for _, m := range append(manyMachines(), chain(2), chain(3)) {
		want := equalPairs(m)
		for q := range m.States {
			for r := range m.States {
				if got, code := impl.AreEqualStates(m, q, r); got != want[q][r] || code != impl.ErrNone {
					t.Errorf("AreEqualStates(%v, %d, %d) = %v, %d", m, q, r, got, code)
				}
			}
		}
	}
}

// TestEqualStatesByWords looks at all words that are long enough to tell the states of small
// machines apart.
func TestEqualStatesByWords(t *testing.T) {
	d := dice(3)
	for range 150 {
		m := randomMachine(&d, 2+d.roll(2), 1+d.roll(4), 2)
		for q := range m.States {
			for r := range m.States {
				same := true
				for _, w := range wordsOf(m.Letters, 4) {
					same = same && led(m, q, w) == led(m, r, w)
				}
				if got, code := impl.AreEqualStates(m, q, r); got != same || code != impl.ErrNone {
					t.Errorf("AreEqualStates(%v, %d, %d) = %v, %d", m, q, r, got, code)
				}
			}
		}
	}
}

func TestAreEqualStatesErrors(t *testing.T) {
	for name, m := range badMachines() {
		for _, q := range []int64{-1, 0, 16} {
			if same, code := impl.AreEqualStates(m, q, q); same || code != impl.ErrInvalid {
				t.Errorf("%s: AreEqualStates = %v, %d", name, same, code)
			}
		}
	}
	for _, text := range machineTexts {
		m := parse(t, text)
		for _, q := range append([]int64{-1, m.States, 16, 256}, farNumbers...) {
			for _, pair := range [][2]int64{{q, 0}, {0, q}, {q, q}} {
				if same, code := impl.AreEqualStates(m, pair[0], pair[1]); same || code != impl.ErrRange {
					t.Errorf("AreEqualStates(%s, %v) = %v, %d", text, pair, same, code)
				}
			}
		}
	}
}

func TestTrivialStates(t *testing.T) {
	examples := map[string][]int64{
		"2:0a1a":                        {0},
		"2:1a0a":                        {},
		"3:0a1a2a":                      {0},
		"3:0a2a1a":                      {},
		"2:0a1a,1a0b":                   {0},
		"2:1a0b,0b1b":                   {1},
		"2:0b1a,0a1b":                   {0, 1},
		"2:0b1b,0a1a,1a0c,1b0c":         {0, 1},
		"2:0a1b,0b1c,1a0a":              {},
		"2:1a0a,0b1c,0d1b,0c1d":         {1, 2, 3},
		"2:1a0a,0b1c,0d1b,0c1a":         {},
		"3:0b1c2a,0c1a2b,0a1b2c":        {0, 1, 2},
		"3:0b1c2a,0c1a2b,0a1b2d,2d1d0d": {},
		"2:0a1b,1a0b":                   {},
		"3:0a1a2a,1a2a0a,0b1c2d,2a0a1a": {0},
	}
	for text, want := range examples {
		got, code := impl.TrivialStates(parse(t, text))
		if !slices.Equal(got, want) || code != impl.ErrNone {
			t.Errorf("TrivialStates of %q = %v, %d, not %v", text, got, code, want)
		}
	}
	if got, code := impl.TrivialStates(chain(3)); len(got) != 0 || code != impl.ErrNone {
		t.Errorf("TrivialStates of the chain = %v, %d", got, code)
	}
}

// TestTrivialStatesReachNoChange compares with the states from which no output that changes a letter
// can be reached.
func TestTrivialStatesReachNoChange(t *testing.T) {
	for _, m := range manyMachines() {
		var changes [16]bool
		for range m.States + 1 {
			for q := range m.States {
				for x := range m.Letters {
					changes[q] = changes[q] || int64(m.Out[q][x]) != x || changes[m.Next[q][x]]
				}
			}
		}
		var want []int64
		for q := range m.States {
			if !changes[q] {
				want = append(want, q)
			}
		}
		if got, code := impl.TrivialStates(m); !slices.Equal(got, want) || code != impl.ErrNone {
			t.Errorf("TrivialStates(%v) = %v, %d, not %v", m, got, code, want)
		}
	}
}

// TestMinimalMachine checks that each state does what its number does in the minimal machine, that
// equal states alone share a number, and that the numbers follow the least states.
func TestMinimalMachine(t *testing.T) {
	for _, m := range append(manyMachines(), chain(2), chain(3)) {
		minimal, numbers := minimalOf(t, m)
		equal := equalPairs(m)
		count := int64(0)
		for q := range m.States {
			for r := range m.States {
				if (numbers[q] == numbers[r]) != equal[q][r] {
					t.Errorf("MinimalMachine(%v): numbers %v", m, numbers)
				}
			}
			if numbers[q] > count {
				t.Errorf("MinimalMachine(%v): numbers %v do not follow the least states", m, numbers)
			}
			count = max(count, numbers[q]+1)
			for _, w := range append(wordsUpTo(m.Letters, 3), longWords(m.Letters)...) {
				if act(t, m, q, w) != act(t, minimal, numbers[q], w) {
					t.Errorf("MinimalMachine(%v) = %v leads %q elsewhere", m, minimal, w)
				}
			}
		}
		if count != minimal.States {
			t.Errorf("MinimalMachine(%v) = %v, %v", m, minimal, numbers)
		}
		again, same := minimalOf(t, minimal)
		if again != minimal {
			t.Errorf("MinimalMachine(%v) = %v", minimal, again)
		}
		for q, number := range same {
			if number != int64(q) {
				t.Errorf("MinimalMachine(%v): numbers %v", minimal, same)
			}
		}
	}
}

func TestMinimalMachineExamples(t *testing.T) {
	examples := []struct {
		text, want string
		numbers    []int64
	}{
		{"2:0b1b,0a1a,1a0c,1b0c", "2:0a1a,1a0b", []int64{0, 0, 1, 1}},
		{"2:1c0a,1d0b,0c1d,0d1c", "2:1b0a,0b1b", []int64{0, 0, 1, 1}},
		{"2:0b1b,0a1a", "2:0a1a", []int64{0, 0}},
		{"2:1b0b,0a1a,1b0d,0c1a,0a1a", "2:1b0b,0a1a", []int64{0, 1, 0, 1, 1}},
		{"3:0b1c2a,0c1a2b,0a1b2c", "3:0a1a2a", []int64{0, 0, 0}},
		{"3:1b2b0b,1a2a0a,0c1c2d,0d1d2c", "3:1a2a0a,0b1b2b", []int64{0, 0, 1, 1}},
		{"2:0a1a,1a0a,0b1d,0b1e,0a1c", "2:0a1a,1a0a,0b1d,0b1e,0a1c", []int64{0, 1, 2, 3, 4}},
		{"2:" + chainText(), "2:" + chainText(), []int64{0, 1, 2, 3, 4, 5, 6, 7, 8, 9, 10, 11, 12, 13, 14, 15}},
	}
	for _, e := range examples {
		minimal, numbers := minimalOf(t, parse(t, e.text))
		if got, _ := impl.MachineText(minimal); got != e.want || !slices.Equal(numbers, e.numbers) {
			t.Errorf("MinimalMachine of %q = %q, %v", e.text, got, numbers)
		}
	}
}

// TestMinimalMachineOfCopies takes machines with copies of their states, so that the minimal
// machine is known ahead.
func TestMinimalMachineOfCopies(t *testing.T) {
	d := dice(11)
	for _, text := range machineTexts[:16] {
		small := parse(t, text)
		for range 20 {
			m := impl.Machine{Letters: small.Letters, States: 16}
			var origin [16]int64
			for q := range m.States {
				origin[q] = q % small.States
			}
			for q := range m.States {
				m.Out[q] = small.Out[origin[q]]
				for x := range m.Letters {
					next := int64(small.Next[origin[q]][x])
					m.Next[q][x] = byte(next + small.States*d.roll((15-next)/small.States+1))
				}
			}
			minimal, numbers := minimalOf(t, m)
			want, first := minimalOf(t, small)
			if minimal != want {
				t.Errorf("MinimalMachine(%v) = %v, not %v", m, minimal, want)
			}
			for q := range m.States {
				if numbers[q] != first[origin[q]] {
					t.Errorf("MinimalMachine(%v): numbers %v", m, numbers)
				}
			}
		}
	}
}

func TestMinimalErrors(t *testing.T) {
	for name, m := range badMachines() {
		if minimal, numbers, code := impl.MinimalMachine(m); minimal != (impl.Machine{}) || len(numbers) != 0 || code != impl.ErrInvalid {
			t.Errorf("%s: MinimalMachine = %v, %v, %d", name, minimal, numbers, code)
		}
		if list, code := impl.TrivialStates(m); len(list) != 0 || code != impl.ErrInvalid {
			t.Errorf("%s: TrivialStates = %v, %d", name, list, code)
		}
	}
}
