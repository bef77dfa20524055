package tests

import (
	"fmt"
	"slices"
	"testing"

	"loop.example/g01244/impl"
)

// kindsOf returns the kinds of all states, as the program tells them.
func kindsOf(m impl.Machine) [][]int64 {
	var kinds [][]int64
	for q := range m.States {
		kinds = append(kinds, must(impl.KindOfState(m, q)))
	}
	return kinds
}

// isSmall reports whether there are few enough states, with equal ones taken for one, to list all cycles.
func (o observer) isSmall() bool {
	least := map[int64]bool{}
	for q := range o.machine.States {
		least[o.leastBy(q)] = true
	}
	return int64(len(least)) <= 14-2*o.machine.Letters
}

func TestKindOfState(t *testing.T) {
	kinds := map[string]int{}
	for _, m := range activityMachines(t) {
		o := observerOf(m)
		if !o.isSmall() {
			continue
		}
		circuits := o.circuitsBy()
		for q := range m.States {
			want := o.kindBy(q, circuits)
			got, code := impl.KindOfState(m, q)
			expectList(t, "KindOfState", got, code, want)
			kinds[fmt.Sprint(want)]++
		}
	}
	for _, kind := range []string{"[0 0]", "[1 0]", "[1 1]", "[1 2]", "[1 3]", "[2 0]"} {
		if kinds[kind] < 5 {
			t.Errorf("kinds %v", kinds)
		}
	}
}

// TestKindsAreGrowths compares with the growth of activities, for machines of all sizes.
func TestKindsAreGrowths(t *testing.T) {
	kinds := map[string]int{}
	for _, m := range activityMachines(t) {
		want := observerOf(m).growthsBy()
		if got := kindsOf(m); !sameWords(got, want) {
			t.Errorf("%v has the kinds %v, not %v", m, got, want)
		}
		for _, kind := range want {
			kinds[fmt.Sprint(kind)]++
		}
	}
	for _, kind := range []string{"[0 0]", "[1 0]", "[1 1]", "[1 2]", "[1 3]", "[1 4]", "[2 0]"} {
		if kinds[kind] < 10 {
			t.Errorf("kinds %v", kinds)
		}
	}
}

// TestKindsOfEqualStates is a part of the definition: equal states are taken for one.
func TestKindsOfEqualStates(t *testing.T) {
	d := dice(92)
	for _, m := range activityMachines(t) {
		minimal, numbers, code := impl.MinimalMachine(m)
		sameCode(t, "MinimalMachine", code, impl.ErrNone)
		of := kindsOf(minimal)
		for q, kind := range kindsOf(m) {
			if !slices.Equal(kind, of[numbers[q]]) {
				t.Errorf("the state %d of %v has the kind %v, but %v in the minimal machine", q, m, kind, of[numbers[q]])
			}
		}
		more := copied(&d, m, impl.MaxStates)
		for q, kind := range kindsOf(more) {
			if want := must(impl.KindOfState(m, int64(q)%m.States)); !slices.Equal(kind, want) {
				t.Errorf("the state %d of %v has the kind %v, not %v", q, more, kind, want)
			}
		}
	}
}

// kindExamples has the kinds of all states of machines.
var kindExamples = []struct {
	machine string
	want    [][]int64
	bounded bool
}{
	// Trivial states are on no cycle, though they come back to themselves.
	{"2:0a1a", [][]int64{{0, 0}}, true}, {"3:0a1a2a", [][]int64{{0, 0}}, true}, {"2:0b1b,0a1a", [][]int64{{0, 0}, {0, 0}}, true}, {"2:0b1c,0a1b,0c1a", [][]int64{{0, 0}, {0, 0}, {0, 0}}, true},
	{"2:0a1a,1a0a", [][]int64{{0, 0}, {0, 0}}, true}, {"2:0a1c,1c0a,0c1a", [][]int64{{0, 0}, {0, 0}, {0, 0}}, true}, {"2:0a1a,0c1c,1a0a", [][]int64{{0, 0}, {0, 0}, {0, 0}}, true},
	// One cycle, of one state and of several ones.
	{"2:0a1a,1a0b", [][]int64{{0, 0}, {1, 0}}, true}, {"3:0a1a2a,1a2a0b", [][]int64{{0, 0}, {1, 0}}, true}, {"2:0a1a,0a1c,1a0b", [][]int64{{0, 0}, {1, 0}, {1, 0}}, true},
	{"2:0a1a,1a0a,0b1d,0b1e,0a1c", [][]int64{{0, 0}, {0, 0}, {1, 0}, {1, 0}, {1, 0}}, true}, {"3:0a1a2a,1a2a0a,0b1c2d,2a0a1a", [][]int64{{0, 0}, {0, 0}, {1, 0}, {0, 0}}, true},
	{"3:0a1a2a,1a0a2b,2a1c0a,0d2a1a", [][]int64{{0, 0}, {1, 0}, {1, 0}, {1, 0}}, true},
	// A state that only reaches a cycle, at one letter or at all of them, also by way of another state.
	{"2:0a1a,1a0b,0b1a", [][]int64{{0, 0}, {1, 0}, {1, 0}}, true}, {"2:0a1a,1a0b,1b0b", [][]int64{{0, 0}, {1, 0}, {1, 0}}, true}, {"2:0a1a,1a0b,0b1a,0c1a", [][]int64{{0, 0}, {1, 0}, {1, 0}, {1, 0}}, true},
	// Cycles of equal states: b and c, of which b does not come back to itself in the last machine.
	{"2:0a1a,1a0c,1a0b", [][]int64{{0, 0}, {1, 0}, {1, 0}}, true}, {"2:0d1a,1d0c,1a0b,0d1d", [][]int64{{0, 0}, {1, 0}, {1, 0}, {0, 0}}, true}, {"2:0a1a,1a0c,1a0c", [][]int64{{0, 0}, {1, 0}, {1, 0}}, true},
	// Two cycles through one state, at different letters of it, or at those of the other states, of the same states, or not.
	{"2:1a0a", [][]int64{{2, 0}}, false}, {"3:1a0a2a", [][]int64{{2, 0}}, false}, {"3:0a1b2b,0b1b2b", [][]int64{{0, 0}, {0, 0}}, true}, {"3:1a0b2a,0b1b2b", [][]int64{{2, 0}, {0, 0}}, false},
	{"2:0b1b,1a0c,0c1c", [][]int64{{2, 0}, {2, 0}, {0, 0}}, false}, {"2:0b1c,1a0a,0c1c", [][]int64{{2, 0}, {2, 0}, {0, 0}}, false}, {"2:0a1b,1a0b", [][]int64{{2, 0}, {2, 0}}, false},
	{"2:0a1a,1c0b,0a1b", [][]int64{{0, 0}, {2, 0}, {2, 0}}, false}, {"2:0a1a,1c0d,0b1a,1b0a", [][]int64{{0, 0}, {2, 0}, {2, 0}, {2, 0}}, false},
	{"2:1c0b,1b0c,0a1a", [][]int64{{2, 0}, {2, 0}, {2, 0}}, false},
	// Cycles that have a state in common only by equal states: b and c are equal, and so are d and e.
	{"2:0a1a,1d0c,1e0b,0b1a,0b1a", [][]int64{{0, 0}, {2, 0}, {2, 0}, {2, 0}, {2, 0}}, false},
	// States that only reach two cycles through one state, ahead of them or on one cycle.
	{"2:1a0a,0a1c,0c1c", [][]int64{{2, 0}, {2, 0}, {0, 0}}, false}, {"2:1a0a,0b1a,0b1c,0d1d", [][]int64{{2, 0}, {2, 0}, {2, 0}, {0, 0}}, false}, {"2:1a0a,0a1a,0b1b", [][]int64{{2, 0}, {2, 0}, {2, 0}}, false},
	// Several cycles, one after the other.
	{"2:0a1a,1a0b,0c1b", [][]int64{{0, 0}, {1, 0}, {1, 1}}, false}, {"2:0a1a,1a0b,0c1b,0d1c", [][]int64{{0, 0}, {1, 0}, {1, 1}, {1, 2}}, false}, {"2:0a1a,1a0b,0c1b,0a1c", [][]int64{{0, 0}, {1, 0}, {1, 1}, {1, 1}}, false},
	{"2:0a1a,1a0c,0b1a,1c0e,0d1a", [][]int64{{0, 0}, {1, 0}, {1, 0}, {1, 1}, {1, 1}}, false},
	// Two cycles, one of which does not reach the other one: only one of them can be passed.
	{"2:0a1a,1a0b,1c0a,1b0c", [][]int64{{0, 0}, {1, 0}, {1, 0}, {1, 0}}, true}, {"3:0a1a2a,1a0b2a,1c0a2a,0d1b2c", [][]int64{{0, 0}, {1, 0}, {1, 0}, {1, 1}}, false},
	{"3:0a1b2c,1d0b2d,1c0d2d,0d1d2d", [][]int64{{1, 1}, {1, 0}, {1, 0}, {0, 0}}, false},
	// Several ways past cycles, of which the longer one comes first, or last.
	{"3:0a1a2a,1a2a0b,0c1b2a,0b1c2a,0e1b2c", [][]int64{{0, 0}, {1, 0}, {1, 1}, {1, 1}, {1, 2}}, false}, {"3:0a1a2a,1a2a0b,0c1b2a,0c1b2a,0c1b2e", [][]int64{{0, 0}, {1, 0}, {1, 1}, {1, 1}, {1, 2}}, false},
}

func TestKindOfStateExamples(t *testing.T) {
	for _, e := range kindExamples {
		m := parse(t, e.machine)
		if got := kindsOf(m); !sameWords(got, e.want) {
			t.Errorf("%s has the kinds %v", e.machine, got)
		}
		if got, code := impl.IsBoundedMachine(m); got != e.bounded || code != impl.ErrNone {
			t.Errorf("IsBoundedMachine(%s) = %v, %d", e.machine, got, code)
		}
	}
}

// passing returns a machine of so many states, of which the last one is trivial, and each other one comes back to
// itself at the letter 0, and goes on to one of the two states behind it at each other letter.
func passing(letters int64, states int64) impl.Machine {
	m := withTrivial(impl.Machine{Letters: letters}, states)
	for q := range states - 1 {
		m.Out[q][0], m.Out[q][1] = 1, 0
		for x := range letters {
			m.Next[q][x] = byte(min(q+x, states-1))
		}
	}
	return m
}

// turnedRound returns m with its states in the opposite order.
func turnedRound(m impl.Machine) impl.Machine {
	turned := impl.Machine{Letters: m.Letters, States: m.States}
	for q := range m.States {
		turned.Out[m.States-1-q] = m.Out[q]
		for x := range m.Letters {
			turned.Next[m.States-1-q][x] = byte(m.States-1) - m.Next[q][x]
		}
	}
	return turned
}

// TestMostCycles has states that pass 15 cycles, the greatest number besides a trivial state, and states that pass
// fewer of them on the way that has fewer states.
func TestMostCycles(t *testing.T) {
	for letters := int64(2); letters <= 3; letters++ {
		m := passing(letters, impl.MaxStates)
		want := [][]int64{}
		for q := range int64(15) {
			want = append(want, []int64{1, 14 - q})
		}
		want = append(want, []int64{0, 0})
		if got := kindsOf(m); !sameWords(got, want) {
			t.Errorf("%v has the kinds %v", m, got)
		}
		slices.Reverse(want)
		if got := kindsOf(turnedRound(m)); !sameWords(got, want) {
			t.Errorf("%v, turned round, has the kinds %v", m, got)
		}
	}
}

// longCycle returns a machine with a trivial state, and with all others on one cycle, in any order. One of them exchanges
// letters, and comes back to the cycle at a second letter, if it is told to. The trivial state is returned, too.
func longCycle(d *dice, letters int64, states int64, twice bool) (impl.Machine, byte) {
	m := withTrivial(impl.Machine{Letters: letters}, states)
	order := shuffled(d, states)
	trivial, round := order[0], order[1:]
	for i, q := range round {
		m.Next[q] = [3]byte{trivial, trivial, trivial * byte(letters-2)}
		m.Next[q][d.roll(letters)] = round[(i+1)%len(round)]
	}
	m.Next[trivial] = [3]byte{trivial, trivial, trivial * byte(letters-2)}
	q := round[d.roll(int64(len(round)))]
	m.Out[q][0], m.Out[q][1] = 1, 0
	for x := range letters {
		if twice && m.Next[q][x] == trivial {
			m.Next[q][x] = round[d.roll(int64(len(round)))]
			break
		}
	}
	return m, trivial
}

// TestLongCycles has cycles of many states whose numbers are in any order.
func TestLongCycles(t *testing.T) {
	d := dice(93)
	for i := range int64(400) {
		twice := i%4 >= 2
		m, trivial := longCycle(&d, 2+i%2, 3+d.roll(14), twice)
		round := []int64{1, 0}
		if twice {
			round = []int64{2, 0}
		}
		want := slices.Repeat([][]int64{round}, int(m.States))
		want[trivial] = []int64{0, 0}
		if got := kindsOf(m); !sameWords(got, want) {
			t.Errorf("%v has the kinds %v, not %v", m, got, want)
		}
	}
}

func TestIsBoundedMachine(t *testing.T) {
	bounded := map[bool]int{}
	for _, m := range activityMachines(t) {
		want := true
		for _, kind := range observerOf(m).growthsBy() {
			want = want && (slices.Equal(kind, []int64{0, 0}) || slices.Equal(kind, []int64{1, 0}))
		}
		bounded[want]++
		if got, code := impl.IsBoundedMachine(m); got != want || code != impl.ErrNone {
			t.Errorf("IsBoundedMachine(%v) = %v, %d", m, got, code)
		}
	}
	if bounded[true] < 20 || bounded[false] < 20 {
		t.Errorf("machines are bounded or not: %v", bounded)
	}
}

// TestOneStateIsNotBounded has machines of 16 states, of which a single one, in each place, is not bounded.
func TestOneStateIsNotBounded(t *testing.T) {
	m := withTrivial(parse(t, "2:0a1a,1a0b"), impl.MaxStates)
	for q := int64(2); q < m.States; q++ {
		one := m
		one.Next[q] = [3]byte{1, byte(q)}
		if got, code := impl.IsBoundedMachine(one); got || code != impl.ErrNone {
			t.Errorf("IsBoundedMachine(%v) = %v, %d", one, got, code)
		}
		one.Next[q] = [3]byte{1, 0}
		if got, code := impl.IsBoundedMachine(one); !got || code != impl.ErrNone {
			t.Errorf("IsBoundedMachine(%v) = %v, %d", one, got, code)
		}
	}
}
