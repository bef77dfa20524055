package tests

import (
	"fmt"
	"testing"

	"loop.example/g01244/impl"
)

// reversibleBy looks whether two states go on to the same one at the same letter.
func reversibleBy(m impl.Machine) bool {
	for q := range m.States {
		for r := range q {
			for x := range m.Letters {
				if m.Next[q][x] == m.Next[r][x] {
					return false
				}
			}
		}
	}
	return true
}

// dualMachines returns all machines of 2 letters with at most 3 states, all of 3 letters with at most 2, and
// others.
func dualMachines(t *testing.T) []impl.Machine {
	list := append(allMachines(2, 1), allMachines(2, 2)...)
	list = append(list, allMachines(2, 3)...)
	list = append(append(list, allMachines(3, 1)...), allMachines(3, 2)...)
	d := dice(101)
	for range 400 {
		list = append(list, reversibleMachine(&d, 3, 3), reversibleMachine(&d, 2+d.roll(2), 1+d.roll(impl.MaxStates)))
		list = append(list, randomMachine(&d, 3, 3, 6))
	}
	return append(list, productMachines(t)...)
}

// allMachines returns all machines with so many letters and states.
func allMachines(letters int64, states int64) []impl.Machine {
	list := []impl.Machine{{Letters: letters, States: states}}
	for q := range states {
		var more []impl.Machine
		for _, m := range list {
			for _, p := range permutationLists(letters) {
				for _, next := range wordsOf(states, int(letters)) {
					for x := range letters {
						m.Out[q][x], m.Next[q][x] = byte(p[x]), next[x]-'0'
					}
					more = append(more, m)
				}
			}
		}
		list = more
	}
	return list
}

// testDual compares what a dual does with the definition: its states are letters, and its letters states.
func testDual(t *testing.T, m impl.Machine) {
	t.Helper()
	dual, code := impl.DualMachine(m)
	if code != impl.ErrNone || !impl.IsMachine(dual) || dual.Letters != m.States || dual.States != m.Letters {
		t.Errorf("DualMachine(%v) = %v, %d", m, dual, code)
		return
	}
	for q := range m.States {
		for x := range m.Letters {
			if dual.Out[x][q] != m.Next[q][x] || dual.Next[x][q] != m.Out[q][x] {
				t.Errorf("DualMachine(%v) = %v: the state %d at the letter %d", m, dual, x, q)
			}
		}
	}
}

func TestDualMachine(t *testing.T) {
	duals := 0
	for _, m := range dualMachines(t) {
		want := int64(impl.ErrNone)
		if m.States < 2 || m.States > 3 {
			want = impl.ErrRange
		} else if !reversibleBy(m) {
			want = impl.ErrState
		}
		if want == impl.ErrNone {
			testDual(t, m)
			duals++
			continue
		}
		dual, code := impl.DualMachine(m)
		expectMachine(t, fmt.Sprintf("DualMachine(%v)", m), dual, code, impl.Machine{}, want)
	}
	if duals < 300 {
		t.Errorf("only %d duals", duals)
	}
}

func TestDualMachineExamples(t *testing.T) {
	examples := []struct {
		machine string
		dual    string
		code    int64
	}{
		{aleshin, "3:2b1b0a,1a2a0b", impl.ErrNone}, {"2:0b1b,1c0a,0a1c", "3:1a2b0a,1b0a2b", impl.ErrNone}, {"2:0a1a,0b1b", "2:0a1a,0b1b", impl.ErrNone}, {"2:0a1b,1b0a", "2:0a1b,1b0a", impl.ErrNone},
		{"3:1a2b0a,1b0a2b", "2:0b1b,1c0a,0a1c", impl.ErrNone}, {"3:1a2b0a,0b1a2b", "2:0b1a,1c0b,0a1c", impl.ErrNone}, {"3:0a1b2c,1b2c0a,2c0a1b", "3:0a1b2c,1b2c0a,2c0a1b", impl.ErrNone},
		{lamplighter, "", impl.ErrState}, {adding, "", impl.ErrState}, {"2:0a1b,0b1b", "", impl.ErrState}, {"3:0a1a2a,1b2b0a", "", impl.ErrState}, {"2:0a1a,0b1b,0c1b", "", impl.ErrState},
		{"2:1a0a", "", impl.ErrRange}, {"3:1a2a0a", "", impl.ErrRange}, {"2:0a1a,0b1b,0c1c,0d1d", "", impl.ErrRange}, {hanoi, "", impl.ErrRange}, {grigorchuk, "", impl.ErrRange},
	}
	for _, e := range examples {
		want := impl.Machine{}
		if e.code == impl.ErrNone {
			want = parse(t, e.dual)
		}
		dual, code := impl.DualMachine(parse(t, e.machine))
		expectMachine(t, fmt.Sprintf("DualMachine(%s)", e.machine), dual, code, want, e.code)
	}
}

// TestDualsOfDuals is a part of promise 7.
func TestDualsOfDuals(t *testing.T) {
	for _, m := range dualMachines(t) {
		dual, code := impl.DualMachine(m)
		if code != impl.ErrNone {
			continue
		}
		again, code := impl.DualMachine(dual)
		expectMachine(t, fmt.Sprintf("the dual of the dual of %v", m), again, code, m, impl.ErrNone)
		if !reversibleBy(dual) || !must(impl.IsReversible(dual)) {
			t.Errorf("the dual of %v is not reversible", m)
		}
	}
}

func TestReversibleMachines(t *testing.T) {
	kinds := map[[2]bool]int{}
	for _, m := range dualMachines(t) {
		inverse := actor{machine: m}.inverseBy().machine
		want := [2]bool{reversibleBy(m), reversibleBy(m) && reversibleBy(inverse)}
		one, code := impl.IsReversible(m)
		both, otherCode := impl.IsBireversible(m)
		if got := [2]bool{one, both}; got != want || code != impl.ErrNone || otherCode != impl.ErrNone {
			t.Errorf("%v: %v, %d, %d, not %v", m, got, code, otherCode, want)
		}
		if back, code := impl.IsBireversible(inverse); back != want[1] || code != impl.ErrNone {
			t.Errorf("IsBireversible of the inverse of %v = %v, %d", m, back, code)
		}
		kinds[want]++
	}
	for _, kind := range [][2]bool{{false, false}, {true, false}, {true, true}} {
		if kinds[kind] < 100 {
			t.Errorf("kinds %v", kinds)
		}
	}
}

func TestReversibleExamples(t *testing.T) {
	examples := []struct {
		machine    string
		reversible bool
		both       bool
	}{
		{"2:0a1a", true, true}, {"2:1a0a", true, true}, {"3:1a2a0a", true, true}, {aleshin, true, true}, {"2:0b1b,0a1a", true, true}, {"2:0b1b,1c0a,0a1c", true, false},
		{lamplighter, false, false}, {adding, false, false}, {hanoi, false, false}, {grigorchuk, false, false}, {"2:0a1b,1b0a", true, false}, {"3:0a1b2c,1b2c0a,2c0a1b", true, false},
		{"3:0a1a2a,0b1b2c,0c1c2b", true, true}, {"3:0a1a2a,0b1b2c,0c1c2c", false, false}, {"3:0a1a2a,1b0b2c,0c1c2b", true, true},
	}
	for _, e := range examples {
		m := parse(t, e.machine)
		if got, code := impl.IsReversible(m); got != e.reversible || code != impl.ErrNone {
			t.Errorf("IsReversible(%s) = %v, %d", e.machine, got, code)
		}
		if got, code := impl.IsBireversible(m); got != e.both || code != impl.ErrNone {
			t.Errorf("IsBireversible(%s) = %v, %d", e.machine, got, code)
		}
	}
	// A machine that is not reversible may have an inverse machine that is.
	if inverse := must(impl.InverseMachine(parse(t, lamplighter))); !must(impl.IsReversible(inverse)) || must(impl.IsBireversible(inverse)) {
		t.Errorf("the inverse of %s is not reversible", lamplighter)
	}
	for letters := int64(2); letters <= 3; letters++ {
		d := dice(103)
		full := reversibleMachine(&d, letters, impl.MaxStates)
		if !must(impl.IsReversible(full)) {
			t.Errorf("IsReversible(%v) = false", full)
		}
		full.Next[15][letters-1] = full.Next[0][letters-1]
		if must(impl.IsReversible(full)) || must(impl.IsBireversible(full)) {
			t.Errorf("IsReversible(%v) = true", full)
		}
	}
}
