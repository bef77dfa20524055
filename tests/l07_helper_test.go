package tests

import (
	"slices"
	"testing"

	"loop.example/g01244/impl"
)

// actor is a state of a machine.
type actor struct {
	machine impl.Machine
	state   int64
}

// actorsOf returns the states of m.
func actorsOf(m impl.Machine) []actor {
	var list []actor
	for q := range m.States {
		list = append(list, actor{m, q})
	}
	return list
}

// inverseBy returns the state of the inverse machine, which is found by looking for the letters that are
// put out.
func (a actor) inverseBy() actor {
	inverse := impl.Machine{Letters: a.machine.Letters, States: a.machine.States}
	for q := range a.machine.States {
		for y := range a.machine.Letters {
			x := slices.Index(a.machine.Out[q][:], byte(y))
			inverse.Out[q][y], inverse.Next[q][y] = byte(x), a.machine.Next[q][x]
		}
	}
	return actor{inverse, a.state}
}

// placesBy returns what the states of m put out, and to which ones they go on, as places from a number on.
func placesBy(m impl.Machine, from int) (outs []string, nexts [][]int) {
	for q := range m.States {
		out, next := "", []int{}
		for x := range m.Letters {
			out += string(rune('0' + m.Out[q][x]))
			next = append(next, from+int(m.Next[q][x]))
		}
		outs, nexts = append(outs, out), append(nexts, next)
	}
	return outs, nexts
}

// machineBy is the document's definition of the machine of a state.
func (a actor) machineBy() impl.Machine {
	outs, nexts := placesBy(a.machine, 0)
	m, _ := machineFrom(a.machine.Letters, outs, nexts, int(a.state))
	return m
}

// equalBy looks whether no word tells two states apart, in the machine that has the states of both
// machines.
func (a actor) equalBy(b actor) bool {
	outs, nexts := placesBy(a.machine, 0)
	otherOuts, otherNexts := placesBy(b.machine, len(outs))
	different := differentPlaces(append(outs, otherOuts...), append(nexts, otherNexts...))
	return !different[a.state][int(a.machine.States)+int(b.state)]
}

// timesBy is the document's definition of a product, with all pairs of states.
func (a actor) timesBy(b actor) (impl.Machine, int64) {
	var outs []string
	var nexts [][]int
	for q := range a.machine.States {
		for r := range b.machine.States {
			out, next := "", []int{}
			for x := range a.machine.Letters {
				y := a.machine.Out[q][x]
				out += string(rune('0' + b.machine.Out[r][y]))
				next = append(next, int(a.machine.Next[q][x])*int(b.machine.States)+int(b.machine.Next[r][y]))
			}
			outs, nexts = append(outs, out), append(nexts, next)
		}
	}
	return machineFrom(a.machine.Letters, outs, nexts, int(a.state*b.machine.States+b.state))
}

// productBy returns the product of all factors, which is made from the left. There is at least one.
func productBy(factors ...actor) (impl.Machine, int64) {
	m := factors[0].machineBy()
	for _, f := range factors[1:] {
		var code int64
		if m, code = (actor{m, 0}).timesBy(f); code != impl.ErrNone {
			return m, code
		}
	}
	return m, impl.ErrNone
}

// powersBy returns the powers with 1 to MaxPower factors, and their codes.
func (a actor) powersBy() (powers []impl.Machine, codes []int64) {
	m, code := a.machineBy(), int64(impl.ErrNone)
	for range impl.MaxPower {
		powers, codes = append(powers, m), append(codes, code)
		if code == impl.ErrNone {
			m, code = (actor{m, 0}).timesBy(a)
		}
	}
	return powers, codes
}

// trivialOf returns the machine of a trivial state.
func trivialOf(t *testing.T, letters int64) impl.Machine {
	return parse(t, []string{2: "2:0a1a", 3: "3:0a1a2a"}[letters])
}

// shuffled returns the numbers from 0 to n - 1 in some order.
func shuffled(d *dice, n int64) []byte {
	list := make([]byte, n)
	for i := range list {
		list[i] = byte(i)
		j := d.roll(int64(i) + 1)
		list[i], list[j] = list[j], list[i]
	}
	return list
}

// renumbered returns the state in the machine whose states are told in another order.
func (a actor) renumbered(d *dice) actor {
	places := shuffled(d, a.machine.States)
	m := impl.Machine{Letters: a.machine.Letters, States: a.machine.States}
	for q := range m.States {
		m.Out[places[q]] = a.machine.Out[q]
		for x := range m.Letters {
			m.Next[places[q]][x] = places[a.machine.Next[q][x]]
		}
	}
	return actor{m, int64(places[a.state])}
}

// finiteMachine makes a machine each state of which goes on to states with smaller numbers, so that it
// leaves all letters behind some place, and has a finite order.
func finiteMachine(d *dice, letters int64, states int64) impl.Machine {
	m := randomMachine(d, letters, states, 6)
	m.Out[0], m.Next[0] = [3]byte{0, 1, byte(letters-2) * 2}, [3]byte{}
	for q := int64(1); q < states; q++ {
		for x := range letters {
			m.Next[q][x] = byte(d.roll(q))
		}
	}
	return m
}

// reversibleMachine makes a machine that goes on, at each letter, to another state from each state.
func reversibleMachine(d *dice, letters int64, states int64) impl.Machine {
	m := randomMachine(d, letters, states, 6)
	for x := range letters {
		for q, next := range shuffled(d, states) {
			m.Next[q][x] = next
		}
	}
	return m
}

// Machines, told by their texts.
const (
	adding      = "2:0a1a,1a0b"
	adding3     = "3:0a1a2a,1a2a0b"
	aleshin     = "2:1c0b,1b0c,0a1a"
	grigorchuk  = "2:0a1a,1a0a,0b1d,0b1e,0a1c"
	hanoi       = "3:0a1a2a,1a0a2b,2a1c0a,0d2a1a"
	lamplighter = "2:0a1b,1a0b"
	// The powers of the state 8 have 7, 10, 10, 17, 17, 10, 10, 7 and 1 states.
	swelling = "3:0a1a2a,1a2a0a,0b1b2b,0c1a2c,1b2d0d,1c2a0c,0b1c2b,0g1c2d,1f2e0b,1g2h0d,0i1h2i,1a2c0h,1b2f0l,0i1e2l,1l2n0b"
)

// productMachines returns machines of all sizes, the products of whose states are of all sizes, too.
func productMachines(t *testing.T) []impl.Machine {
	list := someMachines(t)
	d := dice(71)
	for i := range int64(20) {
		letters := 2 + i%2
		list = append(list, lightMachine(&d), randomMachine(&d, letters, 1+d.roll(4), 6))
		list = append(list, finiteMachine(&d, letters, 2+d.roll(15)), reversibleMachine(&d, letters, 1+d.roll(4)))
	}
	for _, text := range []string{"2:0a1a", "2:1a0a", "3:0a1a2a", "3:1a2a0a", swelling, "2:0b1b,0a1a", "3:1b0b2b,1c0c2a,1a0a2a", "2:1a0c,0b1e,0c1d,1d0e,1a0a", "2:0a1a,1a0a,1a0b,1a0c", "3:0a1a2a,1a2a0a,1a0b2a"} {
		list = append(list, parse(t, text))
	}
	return list
}

// someActors returns some states of m.
func someActors(d *dice, m impl.Machine, n int) []actor {
	var list []actor
	for range n {
		list = append(list, actor{m, d.roll(m.States)})
	}
	return list
}

// manyFactors returns pairs of states of machines with the same letters.
func manyFactors(t *testing.T) [][2]actor {
	machines := productMachines(t)
	d := dice(73)
	var list [][2]actor
	for i, m := range machines {
		for j := range machines {
			k := machines[(i+j)%len(machines)]
			if k.Letters == m.Letters && (j == 0 || d.roll(40) == 0) {
				a, b := someActors(&d, m, 3), someActors(&d, k, 3)
				list = append(list, [2]actor{a[0], b[0]}, [2]actor{a[1], b[1]}, [2]actor{a[2], b[2]})
			}
		}
		a := someActors(&d, m, 1)[0]
		list = append(list, [2]actor{a, a}, [2]actor{a, a.inverseBy()}, [2]actor{a.renumbered(&d), a})
	}
	return list
}

// expectMachine checks a machine and a code.
func expectMachine(t *testing.T, what string, got impl.Machine, code int64, want impl.Machine, wantCode int64) {
	t.Helper()
	if got != want || code != wantCode {
		gotText, _ := impl.MachineText(got)
		wantText, _ := impl.MachineText(want)
		t.Errorf("%s = %q, %d, not %q, %d", what, gotText, code, wantText, wantCode)
	}
}
