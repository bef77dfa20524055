package tests

import (
	"fmt"
	"slices"
	"testing"

	"loop.example/g01244/impl"
)

// level has the document's definitions of chapter 5 for one level of a machine, written out plainly.
// It keeps what the steps make of the words, which is looked up often.
type level struct {
	machine impl.Machine
	size    int64
	images  map[int64][]int64
}

func levelBy(m impl.Machine, n int64) level {
	words := wordsOf(m.Letters, int(n))
	l := level{m, int64(len(words)), map[int64][]int64{}}
	numbers := map[string]int64{}
	for k, w := range words {
		numbers[w] = int64(k)
	}
	for _, step := range l.steps() {
		for _, w := range words {
			image, _ := ledOn(m, step, w)
			l.images[step] = append(l.images[step], numbers[image])
		}
	}
	return l
}

// deepestOf returns the last level that may be asked for.
func deepestOf(m impl.Machine) int64 {
	if m.Letters == 3 {
		return 4
	}
	return impl.MaxLevel
}

// steps returns the steps of all states forward, and then backward.
func (l level) steps() []int64 {
	var steps []int64
	for q := range l.machine.States {
		steps = append(steps, q+1)
	}
	for q := range l.machine.States {
		steps = append(steps, -q-1)
	}
	return steps
}

// follow returns the number of the word to which some steps lead that with the number k.
func (l level) follow(k int64, steps []int64) int64 {
	for _, step := range steps {
		k = l.images[step][k]
	}
	return k
}

func (l level) edgesBy() []impl.Edge {
	var edges []impl.Edge
	for k := range l.size {
		for q := range l.machine.States {
			edges = append(edges, impl.Edge{From: k, State: q, To: l.images[q+1][k]})
		}
	}
	return edges
}

// distancesBy finds the distances of all pairs of words, by ways over more and more words between.
func (l level) distancesBy() [][]int64 {
	far := l.size
	distances := make([][]int64, l.size)
	for i := range distances {
		distances[i] = slices.Repeat([]int64{far}, int(l.size))
		for _, step := range l.steps() {
			distances[i][l.images[step][i]] = 1
		}
		distances[i][i] = 0
	}
	for between := range distances {
		for i := range distances {
			for j := range distances {
				distances[i][j] = min(distances[i][j], distances[i][between]+distances[between][j])
			}
		}
	}
	for _, row := range distances {
		for j := range row {
			if row[j] == far {
				row[j] = -1
			}
		}
	}
	return distances
}

// orbitsBy lists the sets of words between which there is a distance.
func orbitsBy(distances [][]int64) [][]int64 {
	var orbits [][]int64
	for _, row := range distances {
		var orbit []int64
		for j, distance := range row {
			if distance >= 0 {
				orbit = append(orbit, int64(j))
			}
		}
		if !slices.ContainsFunc(orbits, func(other []int64) bool { return slices.Equal(orbit, other) }) {
			orbits = append(orbits, orbit)
		}
	}
	return orbits
}

// walksBy returns, for all pairs of words, the number of ways to go from one to the other one in so
// many steps: by each first step, and on from the word to which it leads.
func (l level) walksBy(length int64) [][]int64 {
	walks := make([][]int64, l.size)
	for i := range walks {
		walks[i] = make([]int64, l.size)
		walks[i][i] = 1
	}
	for range length {
		longer := make([][]int64, l.size)
		for i := range longer {
			longer[i] = make([]int64, l.size)
			for _, step := range l.steps() {
				for j := range l.size {
					longer[i][j] += walks[l.images[step][i]][j]
				}
			}
		}
		walks = longer
	}
	return walks
}

// treeBy returns the queue of the word k, and the ways of its words.
func (l level) treeBy(k int64) ([]int64, map[int64][]int64) {
	queue, ways := []int64{k}, map[int64][]int64{k: nil}
	for i := 0; i < len(queue); i++ {
		for _, step := range l.steps() {
			word := l.images[step][queue[i]]
			if _, met := ways[word]; !met {
				queue = append(queue, word)
				ways[word] = append(slices.Clone(ways[queue[i]]), step)
			}
		}
	}
	return queue, ways
}

// loopsBy lists the loops of the word k, however many there are.
func (l level) loopsBy(k int64) [][]int64 {
	queue, ways := l.treeBy(k)
	var loops [][]int64
	told := map[string]bool{"[]": true}
	for _, word := range queue {
		for q := range l.machine.States {
			loop := append(slices.Clone(ways[word]), q+1)
			for _, step := range slices.Backward(ways[l.images[q+1][word]]) {
				loop = append(loop, -step)
			}
			loop = withoutNeighbours(loop)
			if name := fmt.Sprint(loop); !told[name] {
				told[name] = true
				loops = append(loops, loop)
			}
		}
	}
	return loops
}

// withoutNeighbours leaves out neighbours k and -k, again and again.
func withoutNeighbours(steps []int64) []int64 {
	for i := 0; i+1 < len(steps); i++ {
		if steps[i] == -steps[i+1] {
			return withoutNeighbours(slices.Delete(steps, i, i+2))
		}
	}
	return steps
}

// cyclesBy returns the lengths of the cycles of a state in ascending order.
func (l level) cyclesBy(q int64) []int64 {
	var lengths []int64
	for k := range l.size {
		cycle := []int64{k}
		for next := l.images[q+1][k]; next != k; next = l.images[q+1][next] {
			cycle = append(cycle, next)
		}
		// A cycle is counted where its least word is.
		if slices.Min(cycle) == k {
			lengths = append(lengths, int64(len(cycle)))
		}
	}
	slices.Sort(lengths)
	return lengths
}

// withTrivial returns a machine with trivial states behind its own, so that it has so many.
func withTrivial(m impl.Machine, states int64) impl.Machine {
	for q := m.States; q < states; q++ {
		for x := range m.Letters {
			m.Out[q][x], m.Next[q][x] = byte(x), byte(q)
		}
	}
	m.States = states
	return m
}

// eighteen has an orbit of 18 words on the level 3.
const eighteen = "3:0a1a2a,0d2a1c,1a0a2d,0a2a1d"

// graphMachines returns machines with levels that are transitive, and with levels that are not.
func graphMachines(t *testing.T) []impl.Machine {
	list := someMachines(t)
	for _, text := range []string{"2:0a1a", "3:0a1a2a", "2:1a0a", "3:1a0a2a", "2:0a1b,1a0b", "3:0a1a2a,1a0a2a", "3:0a1a2a,1a2a0b", eighteen} {
		list = append(list, parse(t, text))
	}
	d := dice(5)
	for range 12 {
		list = append(list, lightMachine(&d))
	}
	return append(list, shiftMachine(5), withTrivial(parse(t, "2:1a0a"), 16), withTrivial(parse(t, "3:1a0a2a"), 16))
}

// eachLevel calls a check for all levels of some machines.
func eachLevel(t *testing.T, check func(m impl.Machine, n int64, known level)) {
	for _, m := range graphMachines(t) {
		for n := range deepestOf(m) + 1 {
			check(m, n, levelBy(m, n))
		}
	}
}
