package tests

import (
	"fmt"
	"testing"

	"loop.example/g01244/impl"
)

// lateEnds are machines with words of 2 or 3 numbers that have the order 0, or whose order is not found.
var lateEnds = []struct {
	machine string
	numbers int64
	code    int64
}{
	{"2:0a1a,1a0a,0b1c", 2, impl.ErrNone}, {"3:0a1a2a,0c1a2d,2b1a0b,2a0a1a", 2, impl.ErrNone}, {"2:0a1a,0c1a,1a0a,0b1d", 3, impl.ErrNone}, {"3:0a1a2a,0b1a2a,0c1e2b,0a2a1a,2a1a0d", 3, impl.ErrNone},
	{"2:1c0c,0b1a,0a1a", 2, impl.ErrLimit}, {"3:1b2b0b,0a1b2a", 2, impl.ErrLimit}, {"2:1d0e,1d0d,0e1a,0b1b,0b1d", 3, impl.ErrLimit}, {"3:2a0a1c,0a1b2b,0c2c1c,2b0c1c", 3, impl.ErrLimit},
	// Other orders of the words of 3 numbers would meet one whose order is not found first.
	{"3:0a1a2a,0e1a2a,0e2a1a,2a0a1a,0d1b2c", 3, impl.ErrNone},
	// The words whose order is not found have the last number.
	{"3:0a2c1c,0b1c2c,0b2a1c", 3, impl.ErrLimit},
	// Both are met among the words of 2 numbers.
	{"3:0b1b2a,1b2b0b,0b2b1b", 2, impl.ErrNone}, {"3:2b0b1d,1b2b0b,0c2b1a,1d2d0b", 2, impl.ErrNone}, {"2:1b0b,1a0b,1b0a,0a1d", 2, impl.ErrLimit}, {"2:0b1a,0d1a,1c0c,1b0b,0d1b", 2, impl.ErrLimit},
}

// torsionMachines returns machines of at most 5 states.
func torsionMachines(t *testing.T) []impl.Machine {
	var list []impl.Machine
	for _, m := range orderMachines(t) {
		if m.States <= 5 {
			list = append(list, m)
		}
	}
	for _, e := range lateEnds {
		list = append(list, parse(t, e.machine))
	}
	d := dice(66)
	for range 150 {
		list = append(list, randomMachine(&d, 2+d.roll(2), 2+d.roll(2), 4))
	}
	return list
}

// TestTorsionUpTo looks whether its searches end in all ways, with words of all lengths.
func TestTorsionUpTo(t *testing.T) {
	met := map[string]int{}
	for _, m := range torsionMachines(t) {
		for r := range int64(4) {
			want, wantCode, list := rankerOf(m).torsionBy(r)
			if got, code := impl.TorsionUpTo(m, r); got != want || code != wantCode {
				t.Errorf("TorsionUpTo(%v, %d) = %v, %d, not %v, %d", m, r, got, code, want, wantCode)
			}
			last := len(list[len(list)-1])
			met[fmt.Sprintf("%v, code %d, %d numbers", want, wantCode, last)]++
			if want {
				met[fmt.Sprintf("true, %d states", m.States)]++
			}
		}
	}
	for _, what := range []string{
		"true, code 0, 0 numbers", "true, code 0, 1 numbers", "true, code 0, 2 numbers", "true, code 0, 3 numbers",
		"false, code 0, 1 numbers", "false, code 0, 2 numbers", "false, code 0, 3 numbers",
		"false, code 3, 1 numbers", "false, code 3, 2 numbers", "false, code 3, 3 numbers", "true, 1 states", "true, 5 states",
	} {
		if met[what] == 0 {
			t.Errorf("no search with %s: %v", what, met)
		}
	}
}

// TestTorsionEndsAtTheFirstWord has machines with words of the order 0, and with words whose order is
// not found.
func TestTorsionEndsAtTheFirstWord(t *testing.T) {
	examples := []struct {
		machine string
		numbers int64
		want    bool
		code    int64
	}{
		{"2:0a1a,1a0b", 0, true, impl.ErrNone}, {"2:0a1a,1a0b", 1, false, impl.ErrNone}, {"2:0a1a,1a0b", 3, false, impl.ErrNone},
		{"2:0a1b,1a0b", 0, true, impl.ErrNone}, {"2:0a1b,1a0b", 1, false, impl.ErrLimit}, {"2:0a1b,1a0b", 3, false, impl.ErrLimit},
		{"2:0a1a,1a0a,0b1d,0b1e,0a1c", 3, true, impl.ErrNone}, {"3:0a1a2a,1a2a0a,0b1c2d,2a0a1a", 3, true, impl.ErrNone},
		{"3:0a1a2a,1a0a2b,2a1c0a,0d2a1a", 1, true, impl.ErrNone}, {"3:0a1a2a,1a0a2b,2a1c0a,0d2a1a", 2, false, impl.ErrNone},
		// The states behind those of the other kind come first, and the inverses ahead of the states.
		{"2:0a1b,1a0b,0c1c,1c0d", 1, false, impl.ErrNone}, {"2:0a1a,1a0b,0c1d,1c0d", 1, false, impl.ErrLimit},
	}
	for _, e := range examples {
		m := parse(t, e.machine)
		if got, code := impl.TorsionUpTo(m, e.numbers); got != e.want || code != e.code {
			t.Errorf("TorsionUpTo(%s, %d) = %v, %d", e.machine, e.numbers, got, code)
		}
	}
}

func TestTorsionEndsLate(t *testing.T) {
	for _, e := range lateEnds {
		m := parse(t, e.machine)
		for r := range int64(4) {
			want, wantCode := r < e.numbers, int64(impl.ErrNone)
			if !want {
				wantCode = e.code
			}
			if got, code := impl.TorsionUpTo(m, r); got != want || code != wantCode {
				t.Errorf("TorsionUpTo(%s, %d) = %v, %d", e.machine, r, got, code)
			}
		}
	}
}

// TestTorsionOfStates asks for machines of exactly 5 states, and of one more.
func TestTorsionOfStates(t *testing.T) {
	for _, text := range []string{"2:1a0a", "3:1a0a2a", "2:0a1a,1a0a,0b1d,0b1e,0a1c"} {
		for r := range int64(4) {
			five, six := withTrivial(parse(t, text), 5), withTrivial(parse(t, text), 6)
			if got, code := impl.TorsionUpTo(five, r); !got || code != impl.ErrNone {
				t.Errorf("TorsionUpTo(%v, %d) = %v, %d", five, r, got, code)
			}
			if got, code := impl.TorsionUpTo(six, r); got || code != impl.ErrRange {
				t.Errorf("TorsionUpTo(%v, %d) = %v, %d", six, r, got, code)
			}
		}
	}
}

// TestTorsionAgreesWithOrders is asked with the functions of the program alone.
func TestTorsionAgreesWithOrders(t *testing.T) {
	for _, m := range torsionMachines(t) {
		got, code := impl.TorsionUpTo(m, 1)
		orders, ordersCode := impl.OrdersOfStates(m)
		if code != impl.ErrNone || ordersCode != impl.ErrNone {
			continue
		}
		want := true
		for _, order := range orders {
			want = want && order != 0
		}
		if got != want {
			t.Errorf("TorsionUpTo(%v, 1) = %v, OrdersOfStates %v", m, got, orders)
		}
	}
}
