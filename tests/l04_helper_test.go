package tests

import (
	"fmt"
	"slices"
	"testing"

	"loop.example/g01244/impl"
)

// keeper has the document's definitions of chapter 4 for one machine, written out plainly. It keeps
// the machines of group words, which are looked up often.
type keeper struct {
	tower
	kept map[string]keptMachine
}

type keptMachine struct {
	machine impl.Machine
	code    int64
}

func keeperOf(m impl.Machine) keeper {
	return keeper{towerOf(m), map[string]keptMachine{}}
}

// machineBy is that of the tower, kept for normal words.
func (k keeper) machineBy(g []int64) (impl.Machine, int64) {
	name := fmt.Sprint(k.normalBy(g))
	result, ok := k.kept[name]
	if !ok {
		result.machine, result.code = k.tower.machineBy(g)
		k.kept[name] = result
	}
	return result.machine, result.code
}

// sectionsBy lists the normal words of the sections at the words of a level, each one once.
func (k keeper) sectionsBy(g []int64, n int) [][]int64 {
	var list [][]int64
	for _, w := range wordsOf(k.machine.Letters, n) {
		section := k.normalBy(sectionBy(k.machine, g, w))
		if !slices.ContainsFunc(list, func(other []int64) bool { return slices.Equal(section, other) }) {
			list = append(list, section)
		}
	}
	return list
}

// lastingBy looks for points from which a way leads back to them, and for all that they reach.
func (k keeper) lastingBy(g []int64) ([][]int64, int64) {
	queue, _, code := k.queueBy(g, false)
	if code != impl.ErrNone {
		return nil, code
	}
	places := map[string]int{}
	for i, word := range queue {
		places[fmt.Sprint(word)] = i
	}
	lines := make([][]int, len(queue))
	for i, word := range queue {
		for _, section := range k.sectionsBy(word, 1) {
			lines[i] = append(lines[i], places[fmt.Sprint(section)])
		}
	}
	lasting := make([]bool, len(queue))
	for i := range queue {
		reached := reachedBy(lines, i)
		if reached[i] {
			for j := range queue {
				lasting[j] = lasting[j] || reached[j]
			}
		}
	}
	var list [][]int64
	for i, word := range queue {
		if lasting[i] {
			list = append(list, word)
		}
	}
	return list, impl.ErrNone
}

// reachedBy marks the points that are reached from a point along at least one line.
func reachedBy(lines [][]int, from int) []bool {
	reached := make([]bool, len(lines))
	open := []int{from}
	for len(open) > 0 {
		i := open[len(open)-1]
		open = open[:len(open)-1]
		for _, j := range lines[i] {
			if !reached[j] {
				reached[j] = true
				open = append(open, j)
			}
		}
	}
	return reached
}

// statesBy returns the group words of the states and their inverses.
func (k keeper) statesBy() [][]int64 {
	var list [][]int64
	for q := range k.machine.States {
		list = append(list, []int64{q + 1}, []int64{-q - 1})
	}
	return list
}

// put puts in the lasting sections of g that are not equal to a word of a list.
func (k keeper) put(list [][]int64, g []int64) ([][]int64, int64) {
	sections, code := k.lastingBy(g)
	for _, section := range sections {
		in, listCode := k.inBy(section, list)
		if listCode != impl.ErrNone {
			return nil, listCode
		}
		if !in {
			if len(list) == impl.MaxNucleus {
				return nil, impl.ErrLimit
			}
			list = append(list, section)
		}
	}
	return list, code
}

// nucleusBy is the nucleus search. It returns the number of the rounds, too.
func (k keeper) nucleusBy() (list [][]int64, rounds int, code int64) {
	for _, g := range k.statesBy() {
		if list, code = k.put(list, g); code != impl.ErrNone {
			return nil, 0, code
		}
	}
	for rounds = 1; rounds <= impl.MaxRounds; rounds++ {
		begin := slices.Clone(list)
		for _, a := range begin {
			for _, b := range begin {
				if len(a)+len(b) > impl.MaxGroup {
					return nil, rounds, impl.ErrLimit
				}
				if list, code = k.put(list, slices.Concat(a, b)); code != impl.ErrNone {
					return nil, rounds, code
				}
			}
		}
		if len(list) == len(begin) {
			return list, rounds, impl.ErrNone
		}
	}
	return nil, rounds, impl.ErrNotFound
}

// inBy looks a group word up in a list, of which all words must have machines.
func (k keeper) inBy(g []int64, list [][]int64) (bool, int64) {
	m, worst := k.machineBy(g)
	in := false
	for _, h := range list {
		other, code := k.machineBy(h)
		in = in || m == other
		worst = max(worst, code)
	}
	if worst != impl.ErrNone {
		return false, worst
	}
	return in, impl.ErrNone
}

// productsBy returns all words of a list followed by one of it. It returns ErrLimit if one of them is
// too long, or a word of the list has no machine.
func (k keeper) productsBy(list [][]int64) ([][]int64, int64) {
	var products [][]int64
	for _, a := range list {
		if _, code := k.machineBy(a); code != impl.ErrNone {
			return nil, code
		}
		for _, b := range list {
			if len(a)+len(b) > impl.MaxGroup {
				return nil, impl.ErrLimit
			}
			products = append(products, slices.Concat(a, b))
		}
	}
	return products, impl.ErrNone
}

// allIn reports whether all words are equal to words of a list. The first one that is not, or has no
// machine, ends it.
func (k keeper) allIn(words [][]int64, list [][]int64) (bool, int64) {
	for _, g := range words {
		if in, code := k.inBy(g, list); !in {
			return false, code
		}
	}
	return true, impl.ErrNone
}

func (k keeper) closedBy(list [][]int64) (bool, int64) {
	products, code := k.productsBy(list)
	if code != impl.ErrNone {
		return false, code
	}
	for _, g := range slices.Concat(k.statesBy(), products) {
		sections, code := k.lastingBy(g)
		if code != impl.ErrNone {
			return false, code
		}
		if in, code := k.allIn(sections, list); !in {
			return false, code
		}
	}
	return true, impl.ErrNone
}

func (k keeper) depthBy(list [][]int64) (int64, int64) {
	products, code := k.productsBy(list)
	if code != impl.ErrNone {
		return 0, code
	}
	for n := 0; n <= impl.MaxLevel; n++ {
		all := true
		for _, g := range products {
			in, code := k.allIn(k.sectionsBy(g, n), list)
			if code != impl.ErrNone {
				return 0, code
			}
			if !in {
				all = false
				break
			}
		}
		if all {
			return int64(n), impl.ErrNone
		}
	}
	return 0, impl.ErrNotFound
}

// shiftMachine returns a machine of n states, each of which exchanges 0 and 1 at every nth letter of
// a word. Its group has 2 to the power n elements, all of which are in the nucleus if it has one.
func shiftMachine(n int64) impl.Machine {
	m := impl.Machine{Letters: 2, States: n}
	for q := range n {
		m.Out[q] = [3]byte{0, 1}
		m.Next[q][0], m.Next[q][1] = byte((q+1)%n), byte((q+1)%n)
	}
	m.Out[0] = [3]byte{1, 0}
	return m
}

// lightMachine makes a machine many states of which are trivial or leave the letters, so that it
// may have a nucleus that is neither small nor too large.
func lightMachine(d *dice) impl.Machine {
	m := randomMachine(d, 2+d.roll(2), 2+d.roll(5), 6)
	m.Out[0] = [3]byte{0, 1, byte(m.Letters-2) * 2}
	m.Next[0] = [3]byte{}
	for q := int64(1); q < m.States; q++ {
		for x := range m.Letters {
			if d.roll(3) > 0 {
				m.Next[q][x] = 0
			}
		}
		if d.roll(3) == 0 {
			m.Out[q] = m.Out[0]
		}
	}
	return m
}

// nuclearMachines returns machines with and without a nucleus.
func nuclearMachines(t *testing.T) []impl.Machine {
	var list []impl.Machine
	for _, e := range nuclei {
		list = append(list, parse(t, e.machine))
	}
	d := dice(41)
	for range 60 {
		list = append(list, lightMachine(&d), randomMachine(&d, 2+d.roll(2), 1+d.roll(4), 6))
	}
	return append(list, chain(2), chain(3), shiftMachine(4), shiftMachine(5), shiftMachine(6))
}

// sameWords reports whether two lists have the same words.
func sameWords(a, b [][]int64) bool {
	return slices.EqualFunc(a, b, slices.Equal)
}

// groupsOf returns the group words with texts.
func groupsOf(m impl.Machine, texts ...string) [][]int64 {
	var list [][]int64
	for _, text := range texts {
		list = append(list, groupOf(m, text))
	}
	return list
}
