package tests

import (
	"fmt"
	"slices"
	"testing"

	"loop.example/g01244/impl"
)

// ledBack returns the word that q leads to w.
func ledBack(m impl.Machine, q int64, w string) string {
	if w == "" {
		return ""
	}
	x := slices.Index(m.Out[q][:m.Letters], w[0]-'0')
	return string(rune('0'+x)) + ledBack(m, int64(m.Next[q][x]), w[1:])
}

// ledOn returns what one number of a group word makes of w, and its section at w.
func ledOn(m impl.Machine, k int64, w string) (string, int64) {
	if k > 0 {
		return led(m, k-1, w), sectionOf(m, k-1, w) + 1
	}
	v := ledBack(m, -k-1, w)
	return v, -(sectionOf(m, -k-1, v) + 1)
}

// imageBy and sectionBy are the document's definitions.
func imageBy(m impl.Machine, g []int64, w string) string {
	for _, k := range g {
		w, _ = ledOn(m, k, w)
	}
	return w
}

func sectionBy(m impl.Machine, g []int64, w string) []int64 {
	var section []int64
	for _, k := range g {
		v, r := ledOn(m, k, w)
		section = append(section, r)
		w = v
	}
	return section
}

// tower knows the equal and the trivial states of a machine.
type tower struct {
	machine impl.Machine
	equal   [16][16]bool
	trivial [16]bool
}

func towerOf(m impl.Machine) tower {
	t := tower{machine: m, equal: equalPairs(m)}
	for q := range m.States {
		reached := []int64{q}
		t.trivial[q] = true
		for i := 0; i < len(reached); i++ {
			for x := range m.Letters {
				r := int64(m.Next[reached[i]][x])
				t.trivial[q] = t.trivial[q] && int64(m.Out[reached[i]][x]) == x
				if !slices.Contains(reached, r) {
					reached = append(reached, r)
				}
			}
		}
	}
	return t
}

// normalBy is the document's definition of the normal word.
func (t tower) normalBy(g []int64) []int64 {
	var word []int64
	for _, k := range g {
		q := max(k, -k) - 1
		if t.trivial[q] {
			continue
		}
		least := int64(0)
		for !t.equal[least][q] {
			least++
		}
		if k > 0 {
			word = append(word, least+1)
		} else {
			word = append(word, -least-1)
		}
	}
	for i := 0; i+1 < len(word); {
		if word[i] == -word[i+1] {
			word = slices.Delete(word, i, i+2)
			i = 0
		} else {
			i++
		}
	}
	return word
}

// queueBy is the document's queue of normal words. The search ends at a word that does not lead all
// letters to themselves, if it is told to.
func (t tower) queueBy(g []int64, ends bool) (queue [][]int64, trivial bool, code int64) {
	queue = [][]int64{t.normalBy(g)}
	places := map[string]bool{fmt.Sprint(queue[0]): true}
	for i := 0; i < len(queue); i++ {
		for _, w := range wordsOf(t.machine.Letters, 1) {
			if ends && imageBy(t.machine, queue[i], w) != w {
				return queue, false, impl.ErrNone
			}
		}
		for _, w := range wordsOf(t.machine.Letters, 1) {
			section := t.normalBy(sectionBy(t.machine, queue[i], w))
			if places[fmt.Sprint(section)] {
				continue
			}
			if len(queue) == impl.MaxSeen {
				return queue, false, impl.ErrLimit
			}
			places[fmt.Sprint(section)] = true
			queue = append(queue, section)
		}
	}
	return queue, true, impl.ErrNone
}

// machineBy is the document's definition of the machine of a group word, with the pairs of different
// sections crossed out.
func (t tower) machineBy(g []int64) (impl.Machine, int64) {
	queue, _, code := t.queueBy(g, false)
	if code != impl.ErrNone {
		return impl.Machine{}, code
	}
	letters := wordsOf(t.machine.Letters, 1)
	places := map[string]int{}
	for i, word := range queue {
		places[fmt.Sprint(word)] = i
	}
	outs, nexts := make([]string, len(queue)), make([][]int, len(queue))
	for i, word := range queue {
		for _, w := range letters {
			outs[i] += imageBy(t.machine, word, w)
			nexts[i] = append(nexts[i], places[fmt.Sprint(t.normalBy(sectionBy(t.machine, word, w)))])
		}
	}
	return machineFrom(t.machine.Letters, outs, nexts, 0)
}

// machineFrom is the document's queue of the sets of places that no word tells apart, from the set of one
// place on. Places have the letters that they put out, and the places to which they go on.
func machineFrom(letters int64, outs []string, nexts [][]int, first int) (impl.Machine, int64) {
	different := differentPlaces(outs, nexts)
	same := func(i, j int) bool { return !different[i][j] }
	result := impl.Machine{Letters: letters}
	states := []int{first}
	for q := 0; q < len(states); q++ {
		if q == impl.MaxStates {
			return impl.Machine{}, impl.ErrLimit
		}
		result.States++
		for x, next := range nexts[states[q]] {
			r := slices.IndexFunc(states, func(i int) bool { return same(i, next) })
			if r < 0 {
				r = len(states)
				states = append(states, next)
			}
			result.Out[q][x], result.Next[q][x] = outs[states[q]][x]-'0', byte(r)
		}
	}
	return result, impl.ErrNone
}

// differentPlaces marks the pairs of places that some word tells apart.
func differentPlaces(outs []string, nexts [][]int) [][]bool {
	different := make([][]bool, len(outs))
	for i := range outs {
		different[i] = make([]bool, len(outs))
	}
	for changed := true; changed; {
		changed = false
		for i := range outs {
			for j := range outs {
				if different[i][j] {
					continue
				}
				apart := outs[i] != outs[j]
				for x := range nexts[i] {
					apart = apart || different[nexts[i][x]][nexts[j][x]]
				}
				if apart {
					different[i][j], changed = true, true
				}
			}
		}
	}
	return different
}

// randomGroup returns a group word of n numbers.
func randomGroup(d *dice, m impl.Machine, n int64) []int64 {
	g := []int64{}
	for range n {
		k := d.roll(m.States) + 1
		if d.roll(2) == 0 {
			k = -k
		}
		g = append(g, k)
	}
	return g
}

// manyGroups returns group words of m of all lengths, the empty one included.
func manyGroups(m impl.Machine) [][]int64 {
	d := dice(m.States)
	list := [][]int64{nil, {1}, {-1}, {m.States}, {-m.States}}
	for n := int64(1); n <= impl.MaxGroup; n += 1 + n/3 {
		list = append(list, randomGroup(&d, m, n))
	}
	return append(list, randomGroup(&d, m, impl.MaxGroup))
}

// someMachines returns machines with names in the literature, and some of all sizes.
func someMachines(t *testing.T) []impl.Machine {
	var list []impl.Machine
	for _, text := range machineTexts {
		list = append(list, parse(t, text))
	}
	for i, m := range manyMachines() {
		if i%5 == 0 {
			list = append(list, m)
		}
	}
	return append(list, chain(2), chain(3))
}

// badGroups returns lists that are no group words of m, each by one fault.
func badGroups(m impl.Machine) [][]int64 {
	long := slices.Repeat([]int64{1}, impl.MaxGroup+1)
	list := [][]int64{
		{0}, {m.States + 1}, {-m.States - 1}, {1, 0}, {0, 1}, {1, m.States + 1, 1}, {-m.States - 1, 1}, {17}, {-17}, {128}, {-128}, {256}, {257}, {-255},
		long, slices.Repeat([]int64{-m.States}, 5000), append(slices.Repeat([]int64{1}, impl.MaxGroup-1), 0),
	}
	for _, k := range farNumbers {
		list = append(list, []int64{k}, []int64{1, k})
	}
	return list
}

// must returns a result where the test knows that there is one.
func must[T any](result T, code int64) T {
	if code != impl.ErrNone {
		panic(fmt.Sprintf("code %d, %v", code, result))
	}
	return result
}

// groupOf returns the group word with a text.
func groupOf(m impl.Machine, text string) []int64 {
	return must(impl.ParseGroup(m, text))
}
