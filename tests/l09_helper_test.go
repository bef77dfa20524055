package tests

import (
	"maps"
	"math"
	"slices"
	"testing"

	"loop.example/g01244/impl"
)

// observer has the document's definitions of chapter 9, written out plainly.
type observer struct {
	tower
	reached [16][16]bool
}

func observerOf(m impl.Machine) observer {
	o := observer{tower: towerOf(m)}
	for q := range m.States {
		for list := []int64{q}; len(list) > 0; list = list[1:] {
			if o.reached[q][list[0]] {
				continue
			}
			// Equal states are taken for one, so that what is equal to a reached one is reached, too.
			for r := range m.States {
				if o.equal[list[0]][r] {
					o.reached[q][r] = true
					for x := range m.Letters {
						list = append(list, int64(m.Next[r][x]))
					}
				}
			}
		}
	}
	return o
}

func (o observer) activeBy(q int64, w string) bool {
	return !o.trivial[sectionOf(o.machine, q, w)]
}

// countBy counts the words of n letters at which q is active.
func (o observer) countBy(q int64, n int) int64 {
	count := int64(0)
	for _, w := range wordsOf(o.machine.Letters, n) {
		if o.activeBy(q, w) {
			count++
		}
	}
	return count
}

// countsBy returns the activities of q at the lengths 0 to n, by the numbers of words with each section.
func (o observer) countsBy(q int64, n int64) []int64 {
	var counts []int64
	words := map[int64]int64{q: 1}
	for range n + 1 {
		count, longer := int64(0), map[int64]int64{}
		for r, number := range words {
			if !o.trivial[r] {
				count += number
			}
			for x := range o.machine.Letters {
				longer[int64(o.machine.Next[r][x])] += number
			}
		}
		counts = append(counts, count)
		words = longer
	}
	return counts
}

// leastBy returns the least state that is equal to q.
func (o observer) leastBy(q int64) int64 {
	return int64(slices.Index(o.equal[q][:], true))
}

// circuit is a cycle of states: the letters at which they go on, by the least ones of equal states.
type circuit map[int64]int64

// circuitsBy returns all cycles.
func (o observer) circuitsBy() []circuit {
	var list []circuit
	for q := range o.machine.States {
		if o.leastBy(q) == q && !o.trivial[q] {
			o.goRound(q, q, circuit{}, &list)
		}
	}
	return list
}

// goRound puts all cycles in that begin like a way from one state to another one. They are found from their
// least states on, once each.
func (o observer) goRound(from, at int64, way circuit, list *[]circuit) {
	for x := range o.machine.Letters {
		next := o.leastBy(int64(o.machine.Next[at][x]))
		longer := maps.Clone(way)
		longer[at] = x
		if next == from {
			*list = append(*list, longer)
		} else if _, met := longer[next]; !met && next > from {
			o.goRound(from, next, longer, list)
		}
	}
}

// meets reports whether two cycles have a state in common.
func (c circuit) meets(other circuit) bool {
	for q := range c {
		if _, ok := other[q]; ok {
			return true
		}
	}
	return false
}

// reachesCircuit reports whether q reaches a state of a cycle.
func (o observer) reachesCircuit(q int64, c circuit) bool {
	for r := range c {
		if o.reached[q][r] {
			return true
		}
	}
	return false
}

// passedBy returns the greatest number of cycles that q can pass one after the other, besides some that it has
// passed, and of which no two have a state in common.
func (o observer) passedBy(q int64, circuits, passed []circuit) int64 {
	most := int64(0)
	for _, c := range circuits {
		if o.reachesCircuit(q, c) && !slices.ContainsFunc(passed, c.meets) {
			for r := range c {
				most = max(most, 1+o.passedBy(r, circuits, append(slices.Clone(passed), c)))
			}
		}
	}
	return most
}

// kindBy is the document's definition of the kind of q, all cycles being given.
func (o observer) kindBy(q int64, circuits []circuit) []int64 {
	var met []circuit
	for _, c := range circuits {
		if o.reachesCircuit(q, c) {
			met = append(met, c)
		}
	}
	for i, c := range met {
		if slices.ContainsFunc(met[:i], c.meets) {
			return []int64{2, 0}
		}
	}
	if len(met) == 0 {
		return []int64{0, 0}
	}
	return []int64{1, o.passedBy(q, met, nil) - 1}
}

// growthsBy returns the kinds of all states by the growth of their activities, without any cycles: with a
// polynomial of the degree n, the sum of the activities up to a great length grows to 2 to the power n + 1
// times as much, while the length is doubled.
func (o observer) growthsBy() [][]int64 {
	const long = 4096
	var activities, sums, halves [16]float64
	for q := range o.machine.States {
		if !o.trivial[q] {
			activities[q] = 1
		}
	}
	for n := range 2 * long {
		if n == long {
			halves = sums
		}
		var longer [16]float64
		for q := range o.machine.States {
			sums[q] += activities[q]
			for x := range o.machine.Letters {
				longer[q] += activities[o.machine.Next[q][x]]
			}
		}
		activities = longer
	}
	var kinds [][]int64
	for q := range o.machine.States {
		doublings := math.Round(math.Log2(sums[q] / max(halves[q], 1)))
		switch {
		case math.IsInf(sums[q], 1) || doublings > impl.MaxStates:
			kinds = append(kinds, []int64{2, 0})
		case sums[q] == 0 || doublings == 0:
			kinds = append(kinds, []int64{0, 0})
		default:
			kinds = append(kinds, []int64{1, int64(doublings) - 1})
		}
	}
	return kinds
}

// returnsBy, boundaryBy, edgesBy and partsBy are the document's definitions for the level n.
func (o observer) returnsBy(q int64, n int64) []int64 {
	var numbers []int64
	for k, w := range wordsOf(o.machine.Letters, int(n)) {
		if o.equal[q][sectionOf(o.machine, q, w)] {
			numbers = append(numbers, int64(k))
		}
	}
	return numbers
}

func (o observer) boundaryBy(n int64) []int64 {
	var numbers []int64
	for k, w := range wordsOf(o.machine.Letters, int(n)) {
		for q := range o.machine.States {
			if o.activeBy(q, w) {
				numbers = append(numbers, int64(k))
				break
			}
		}
	}
	return numbers
}

func (o observer) edgesBy(n int64) [][]int64 {
	words := wordsOf(o.machine.Letters, int(n))
	joined := map[[2]string]bool{}
	for q := range o.machine.States {
		for _, w := range words {
			if !o.activeBy(q, w) {
				joined[[2]string{w, led(o.machine, q, w)}] = true
			}
		}
	}
	var edges [][]int64
	for k, w := range words {
		for l := k + 1; l < len(words); l++ {
			if joined[[2]string{w, words[l]}] || joined[[2]string{words[l], w}] {
				edges = append(edges, []int64{int64(k), int64(l)})
			}
		}
	}
	return edges
}

// partsBy gives both words of each edge the lesser one of the names that they have, until all edges have words
// with one name: this is the least number of the part.
func (o observer) partsBy(n int64) [][]int64 {
	var names []int64
	for k := range wordsOf(o.machine.Letters, int(n)) {
		names = append(names, int64(k))
	}
	edges := o.edgesBy(n)
	for changed := true; changed; {
		changed = false
		for _, e := range edges {
			if a, b := names[e[0]], names[e[1]]; a != b {
				names[e[0]], names[e[1]] = min(a, b), min(a, b)
				changed = true
			}
		}
	}
	var parts [][]int64
	for k := range names {
		var part []int64
		for l, name := range names {
			if name == int64(k) {
				part = append(part, int64(l))
			}
		}
		if len(part) > 0 {
			parts = append(parts, part)
		}
	}
	return parts
}

// slopeMachine returns a machine with a trivial state 0, and others that go on to lesser ones, at times back to
// themselves, and seldom to the next one, so that there are few cycles, and states that pass several of them.
func slopeMachine(d *dice, letters int64, states int64) impl.Machine {
	m := randomMachine(d, letters, states, 6)
	for q := int64(1); q < states; q++ {
		for x := range letters {
			m.Next[q][x] = byte(max(d.roll(q), d.roll(q)))
		}
		x := d.roll(letters)
		switch d.roll(12) {
		case 0, 1, 2, 3, 4:
			m.Next[q][x] = byte(q)
		case 5:
			m.Next[q][x] = byte(min(q+1, states-1))
		}
	}
	for x := range letters {
		m.Out[0][x], m.Next[0][x] = byte(x), 0
	}
	return m
}

// copied returns a machine of so many states, each of which is equal to one of m, and goes on to any of those that
// are equal to the next one.
func copied(d *dice, m impl.Machine, states int64) impl.Machine {
	k := impl.Machine{Letters: m.Letters, States: states}
	for q := range states {
		k.Out[q] = m.Out[q%m.States]
		for x := range m.Letters {
			next := int64(m.Next[q%m.States][x])
			k.Next[q][x] = byte(next + m.States*d.roll((states-1-next)/m.States+1))
		}
	}
	return k
}

// activityMachines returns machines with states of all kinds, and with equal states.
func activityMachines(t *testing.T) []impl.Machine {
	list := graphMachines(t)
	d := dice(91)
	for i := range int64(100) {
		m := slopeMachine(&d, 2+i%2, 2+i%15)
		list = append(list, m)
		if m.States < impl.MaxStates {
			list = append(list, copied(&d, m, m.States+1+d.roll(impl.MaxStates-m.States)))
		}
	}
	for _, text := range machineTexts {
		if m := parse(t, text); m.States <= impl.MaxStates/2 {
			list = append(list, copied(&d, m, m.States+1+d.roll(impl.MaxStates-m.States)))
		}
	}
	return list
}

// stair returns a machine of so many states, of which the last one is trivial, and each other one goes on to the
// next one at all letters; the one ahead of the last one exchanges letters.
func stair(letters int64, states int64) impl.Machine {
	m := withTrivial(impl.Machine{Letters: letters}, states)
	for q := range states - 1 {
		for x := range letters {
			m.Next[q][x] = byte(q + 1)
		}
	}
	m.Out[states-2][0], m.Out[states-2][1] = 1, 0
	return m
}
