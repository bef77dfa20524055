package tests

import (
	"fmt"
	"slices"
	"testing"

	"loop.example/g01244/impl"
)

// grower has the document's definitions of chapter 10 for one machine, written out plainly. The spheres
// are all those up to MaxRadius that can be found, and what ends them, if there are fewer, is the code.
// The machines are those of the words of the spheres, one behind the other.
type grower struct {
	keeper
	generators []int64
	spheres    [][][]int64
	machines   []impl.Machine
	code       int64
}

func growerOf(m impl.Machine) grower {
	g := grower{keeper: keeperOf(m)}
	g.generators, g.code = g.generatorsBy()
	if g.code == impl.ErrNone {
		g.spheres, g.machines, g.code = g.spheresBy()
	}
	return g
}

func (g grower) trivialBy(word []int64) (bool, int64) {
	_, trivial, code := g.queueBy(word, true)
	return trivial, code
}

func (g grower) equalBy(a, b []int64) (bool, int64) {
	return g.trivialBy(slices.Concat(a, opposite(b)))
}

func (g grower) generatorsBy() ([]int64, int64) {
	var generators []int64
	for q := range g.machine.States {
		if g.trivial[q] || slices.Index(g.equal[q][:], true) != int(q) {
			continue
		}
		same, code := g.equalBy([]int64{q + 1}, []int64{-q - 1})
		if code != impl.ErrNone {
			return nil, code
		}
		generators = append(generators, q+1)
		if !same {
			generators = append(generators, -q-1)
		}
	}
	return generators, impl.ErrNone
}

// spheresBy looks for the machine of each new word among those of all words found so far.
func (g grower) spheresBy() (spheres [][][]int64, machines []impl.Machine, code int64) {
	machine, _ := g.machineBy(nil)
	machines = append(machines, machine)
	spheres = append(spheres, [][]int64{nil})
	for n := range impl.MaxRadius {
		var sphere [][]int64
		for _, word := range spheres[n] {
			for _, s := range g.generators {
				longer := append(slices.Clone(word), s)
				machine, code := g.machineBy(longer)
				if code != impl.ErrNone {
					return spheres, machines, code
				}
				if slices.Contains(machines, machine) {
					continue
				}
				if len(machines) == impl.MaxBall {
					return spheres, machines, impl.ErrLimit
				}
				machines = append(machines, machine)
				sphere = append(sphere, longer)
			}
		}
		spheres = append(spheres, sphere)
	}
	return spheres, machines, impl.ErrNone
}

// sphereCode returns what the spheres of 0 to r end with.
func (g grower) sphereCode(r int64) int64 {
	if r < int64(len(g.spheres)) {
		return impl.ErrNone
	}
	return g.code
}

func (g grower) ballBy(r int64) ([][]int64, int64) {
	if code := g.sphereCode(r); code != impl.ErrNone {
		return nil, code
	}
	return slices.Concat(g.spheres[:r+1]...), impl.ErrNone
}

func (g grower) sizesBy(r int64) ([]int64, int64) {
	if code := g.sphereCode(r); code != impl.ErrNone {
		return nil, code
	}
	var sizes []int64
	for _, sphere := range g.spheres[:r+1] {
		sizes = append(sizes, int64(len(sphere)))
	}
	return sizes, impl.ErrNone
}

func (g grower) shortestBy(word []int64, r int64) ([]int64, int64) {
	machines := g.machines
	for n := range r + 1 {
		if code := g.sphereCode(n); code != impl.ErrNone {
			return nil, code
		}
		machine, code := g.machineBy(word)
		if code != impl.ErrNone {
			return nil, code
		}
		size := len(g.spheres[n])
		if i := slices.Index(machines[:size], machine); i >= 0 {
			return g.spheres[n][i], impl.ErrNone
		}
		machines = machines[size:]
	}
	return nil, impl.ErrNotFound
}

// allWords returns the words of n generators in order.
func (g grower) allWords(n int64) [][]int64 {
	words := [][]int64{nil}
	for range n {
		var longer [][]int64
		for _, word := range words {
			for _, s := range g.generators {
				longer = append(longer, append(slices.Clone(word), s))
			}
		}
		words = longer
	}
	return words
}

// mayFollow reports whether b may be the neighbour of a in a relation.
func (g grower) mayFollow(a, b int64) bool {
	if a == b {
		// A generator that is not its own inverse has its opposite among the generators.
		return slices.Contains(g.generators, -a)
	}
	return a != -b
}

func (g grower) isRound(word []int64) bool {
	for i, s := range word {
		if len(word) > 1 && !g.mayFollow(s, word[(i+1)%len(word)]) {
			return false
		}
	}
	return true
}

func (g grower) relationsBy(l int64) ([][]int64, int64) {
	if g.generators == nil && g.code != impl.ErrNone {
		return nil, g.code
	}
	if len(g.generators) > 8 {
		return nil, impl.ErrRange
	}
	var relations [][]int64
	for _, word := range g.allWords(l) {
		if !g.isRound(word) {
			continue
		}
		trivial, code := g.trivialBy(word)
		if code != impl.ErrNone {
			return nil, code
		}
		if trivial {
			relations = append(relations, word)
		}
	}
	return relations, impl.ErrNone
}

func (g grower) isCentralBy(word []int64) (bool, int64) {
	for _, s := range g.generators {
		if same, code := g.equalBy(word, slices.Concat([]int64{-s}, word, []int64{s})); !same {
			return false, code
		}
	}
	return true, impl.ErrNone
}

func (g grower) centralBy(r int64) ([][]int64, int64) {
	words, code := g.ballBy(r)
	if code != impl.ErrNone {
		return nil, code
	}
	var central [][]int64
	for _, word := range words {
		is, code := g.isCentralBy(word)
		if code != impl.ErrNone {
			return nil, code
		}
		if is {
			central = append(central, word)
		}
	}
	return central, impl.ErrNone
}

func (g grower) abelianBy() (bool, int64) {
	if g.generators == nil && g.code != impl.ErrNone {
		return false, g.code
	}
	for _, s := range g.generators {
		for _, t := range g.generators {
			if same, code := g.equalBy([]int64{s, t}, []int64{t, s}); !same {
				return false, code
			}
		}
	}
	return true, impl.ErrNone
}

// Machines with words that the search for equal words gives up.
var (
	// Of one of their states, followed by itself: the state 0 of two machines, and the state 14 of the last one.
	endlessSquares = []string{
		"2:1a0k,1h0l,1k0b,1e0h,1m0n,1g0o,1d0i,1m0a,1j0d,1b0g,1c0g,1l0e,1f0l,1j0f,1p0j,0g1n",
		"3:1k0f2d,1m0c2d,1n0k2j,1m0f2l,1n0d2j,1d0k2b,1n0l2c,1c0e2f,1i0j2f,1o0g2h,1h0h2e,1c0i2g,1a0m2l,1n0b2o,1p0n2i,0c1n2f",
		"2:1p0j,1h0l,1k0b,1e0h,1m0n,1g0a,1d0i,1m0o,1j0d,1b0g,1c0g,1l0e,1f0l,1j0f,1o0k,0g1n",
	}
	// Of relations with 4 numbers.
	endlessRelations = []string{"2:0b1a,0d1c,1d0c,1b0a", "2:1b0c,0a1d,0b1c,1a0d", "3:0a1b2d,2d1b0a,2b1b0c,0c1c2b"}
	// Of words and their conjugates, in a ball that is found.
	endlessConjugates = []string{"2:0b1b,1a0c,0a1a", "2:1a0c,0a1a,0b1b", "3:2c1a0b,0c1c2c,0a1c2a", "3:0a1a2d,2d1d0a,2b1b0c,0c1c2b"}
	// Of two generators in both orders, ahead of all that are different in both orders, and behind some of these.
	endlessPairs = []string{
		"3:0f1a2d,0i1k2j,1c0c2i,0g1e2i,0f1h2a,0f1b2i,0i1g2d,0c1d2k,0l1l2a,0d1h2h,0l1g2l,0f1k2k",
		"2:0k1c,0i1f,0l1c,1j0i,0h1n,0m1e,0e1c,0e1b,0e1j,0l1o,0n1m,0e1m,0m1k,0m1f,0c1d",
		"3:0f1b2d,0i1l2j,1c0c2i,0g1e2i,0f1h2a,0f1b2i,0i1g2d,0c1d2k,0l1l2a,0d1h2h,0l1g2l,0f1b2k",
	}
	endlessLaterPairs = []string{
		"2:0a1f,1e0e,0g1a,0f1c,1c0e,0d1d,0h1m,0h1k,1g0b,0m1d,0l1g,0f1b,0l1a",
		"2:1g0a,0c1j,0e1g,0j1g,0d1k,1k0k,1f0f,0d1i,0g1j,1j0g,1h0h",
	}
)

// ballOf200 and ballOf201 tell machines by their texts, with the radius of a ball of so many words.
var (
	ballOf200 = map[string]int64{
		"3:0a1a2a,2a1a0a,2a1a0b,2c1a0a,1c0d2a": 3,
		"3:0a1a2a,0a2a1a,1a0a2a,0b1a2a,1c0b2a": 4,
		"2:0a1a,1a0a,1b0b,0b1b,0a1d,1d0e":      5,
		"3:2a1a0a,2b1c0b,2d1b0a,0d1c2d":        5,
	}
	ballOf201 = map[string]int64{
		"2:1a0a,1c0b,1f0f,1b0f,1a0f,0f1f":      3,
		"2:0a1a,1a0a,0b1b,1b0c,0b1a,1d0d":      4,
		"3:0a1a2a,0a1d2a,0d1d2a,1b0b2b,2d0a1a": 4,
		"2:0a1a,0f1f,0a1b,0b1a,0a1a,1a0f":      5,
	}
)

// withInverses returns the machine of the states of m, which are at most 8, and of their inverses.
func withInverses(m impl.Machine) impl.Machine {
	k := impl.Machine{Letters: m.Letters, States: 2 * m.States}
	for q := range m.States {
		for x := range m.Letters {
			y := m.Out[q][x]
			k.Out[q][x], k.Next[q][x] = y, m.Next[q][x]
			k.Out[q+m.States][y], k.Next[q+m.States][y] = byte(x), m.Next[q][x]+byte(m.States)
		}
	}
	return k
}

// growthMachines returns machines with balls of all sizes.
func growthMachines(t *testing.T) []impl.Machine {
	texts := slices.Concat(machineTexts, endlessSquares, endlessRelations, endlessConjugates, endlessPairs, endlessLaterPairs)
	for _, table := range []map[string]int64{ballOf200, ballOf201} {
		for text := range table {
			texts = append(texts, text)
		}
	}
	slices.Sort(texts)
	var list []impl.Machine
	d := dice(101)
	for _, text := range texts {
		m := parse(t, text)
		list = append(list, m)
		if m.States <= 3 {
			list = append(list, withInverses(m), copied(&d, m, m.States+1+d.roll(4)))
		}
	}
	for i := range int64(30) {
		letters := 2 + i%2
		list = append(list, lightMachine(&d), finiteMachine(&d, letters, 2+d.roll(6)), randomMachine(&d, letters, 1+d.roll(4), 6))
	}
	for i, m := range manyMachines() {
		if i%12 == 0 {
			list = append(list, m)
		}
	}
	return append(list, shiftMachine(2), shiftMachine(3), shiftMachine(5), withTrivial(parse(t, "3:1a0a2a"), 16))
}

// eachGrower calls a check for some machines.
func eachGrower(t *testing.T, check func(what string, g grower)) {
	t.Helper()
	for _, g := range growersOf(t) {
		check(fmt.Sprint(must(impl.MachineText(g.machine)), " "), g)
	}
}

// growers keeps what growersOf has made, which takes long.
var growers []grower

func growersOf(t *testing.T) []grower {
	if growers == nil {
		for _, m := range growthMachines(t) {
			growers = append(growers, growerOf(m))
		}
	}
	return growers
}
