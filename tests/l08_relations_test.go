package tests

import (
	"fmt"
	"slices"
	"testing"

	"loop.example/g01244/impl"
)

// holdBy is the document's definition: words are looked at in order, up to the first one that is not
// trivial, or whose queue is too long.
func (t tower) holdBy(list [][]int64) (bool, int64) {
	for _, g := range list {
		if _, trivial, code := t.queueBy(g, true); !trivial || code != impl.ErrNone {
			return false, code
		}
	}
	return true, impl.ErrNone
}

// testHold looks whether a list holds as it should.
func testHold(t *testing.T, m impl.Machine, list [][]int64, want bool, wantCode int64) {
	t.Helper()
	if holds, code := impl.DoRelationsHold(m, list); holds != want || code != wantCode {
		t.Errorf("DoRelationsHold(%v, %v) = %v, %d, not %v, %d", m, list, holds, code, want, wantCode)
	}
}

// trivialGroups returns some trivial group words of m.
func trivialGroups(d *dice, m impl.Machine) [][]int64 {
	list := [][]int64{nil, {}}
	for n := range int64(6) {
		g := randomGroup(d, m, n)
		list = append(list, slices.Concat(g, opposite(g)))
	}
	return list
}

func TestDoRelationsHold(t *testing.T) {
	d := dice(81)
	held := 0
	for _, m := range someMachines(t) {
		known := towerOf(m)
		for length := range int64(7) {
			var list [][]int64
			for range length {
				list = append(list, trivialGroups(&d, m)[d.roll(8)])
			}
			testHold(t, m, list, true, impl.ErrNone)
			// Of short words, some are trivial for many machines.
			list = slices.Insert(list, int(d.roll(length+1)), randomGroup(&d, m, 1+d.roll(3)))
			holds, code := known.holdBy(list)
			testHold(t, m, list, holds, code)
			if holds {
				held++
			}
		}
	}
	if held < 20 {
		t.Errorf("only %d lists with words that may be trivial hold", held)
	}
}

func TestEmptyListsHold(t *testing.T) {
	for _, m := range someMachines(t) {
		for _, list := range [][][]int64{nil, {}, {nil}, {{}}, {nil, nil, {}}, slices.Repeat([][]int64{{}}, 1000)} {
			testHold(t, m, list, true, impl.ErrNone)
		}
	}
}

// TestLongListsHold has more words than other lists of the document may have, and the longest words.
func TestLongListsHold(t *testing.T) {
	for _, r := range records {
		m, list := relationsOf(t, r.name)
		list = append(list, slices.Concat(slices.Repeat([]int64{1, 2}, 10), slices.Repeat([]int64{-2, -1}, 10)))
		list = slices.Repeat(list, 100)
		testHold(t, m, list, true, impl.ErrNone)
		testHold(t, m, append(list, slices.Repeat([]int64{2}, impl.MaxGroup-1)), r.name == "gupta", impl.ErrNone)
	}
}

// limited returns machines, each with a group word whose queue is too long, and one that is not trivial.
func limited(t *testing.T) (machines []impl.Machine, words [][2][]int64) {
	for _, e := range slices.Concat(longQueues, hiddenDifferences) {
		m := parse(t, e.machine)
		for q := range m.States {
			if holds, code := towerOf(m).holdBy([][]int64{{q + 1}}); !holds && code == impl.ErrNone {
				machines = append(machines, m)
				words = append(words, [2][]int64{groupOf(m, e.group), {q + 1}})
				break
			}
		}
	}
	if len(machines) != len(longQueues)+len(hiddenDifferences) {
		t.Errorf("only %d machines with a limit", len(machines))
	}
	return machines, words
}

// TestRelationsAreLookedAtInOrder has ErrLimit behind and ahead of the first word that is not trivial.
func TestRelationsAreLookedAtInOrder(t *testing.T) {
	machines, words := limited(t)
	for i, m := range machines {
		long, moving := words[i][0], words[i][1]
		still := []int64{1, -1}
		for _, list := range [][][]int64{{moving, long}, {moving, still, long}, {nil, still, moving, long, long}, {moving, moving, long}} {
			testHold(t, m, list, false, impl.ErrNone)
		}
		for _, list := range [][][]int64{{long}, {long, moving}, {still, long}, {nil, still, long, moving}, {long, still}, {long, long}} {
			testHold(t, m, list, false, impl.ErrLimit)
		}
	}
	// A queue of just MaxSeen words is not too long, and one that ends in time is not either.
	for _, e := range fullQueues {
		m := parse(t, e.machine)
		g := groupOf(m, e.group)
		testHold(t, m, [][]int64{g, nil, g}, true, impl.ErrNone)
	}
	for _, e := range lateDifferences {
		m := parse(t, e.machine)
		testHold(t, m, [][]int64{nil, groupOf(m, e.group)}, false, impl.ErrNone)
	}
}

func TestRelationErrorsOfMachines(t *testing.T) {
	for name, m := range badMachines() {
		for _, list := range [][][]int64{nil, {}, {nil}, {{1}}, {{0}}, {{1, -1}, {2}}} {
			allAre(t, name, map[string]outcome{"DoRelationsHold": boolOutcome(impl.DoRelationsHold(m, list))}, groupInvalid)
		}
	}
}

// TestRelationErrorsOfGroups has words that are no group words, also behind those that end the search.
func TestRelationErrorsOfGroups(t *testing.T) {
	machines, words := limited(t)
	for i, m := range machines {
		for _, bad := range badGroups(m) {
			for _, list := range [][][]int64{{bad}, {nil, bad}, {bad, {1, -1}}, {{1, -1}, bad}, {words[i][0], bad}, {words[i][1], bad}, {words[i][1], nil, bad, nil}, {bad, words[i][0]}} {
				what := fmt.Sprintf("%d states, %.45v", m.States, list)
				allAre(t, what, map[string]outcome{"DoRelationsHold": boolOutcome(impl.DoRelationsHold(m, list))}, groupInvalid)
			}
		}
	}
}

// TestRelationArgumentsAreLeft gives words and lists with spare memory behind them.
func TestRelationArgumentsAreLeft(t *testing.T) {
	m := parse(t, grigorchuk)
	memory := slices.Repeat([]int64{3, 4, 5, 7}, 10)
	numbers := slices.Clone(memory)
	rows := [][]int64{memory[:3:10], memory[12:15:30], {9}, {8}}
	before := slices.Clone(rows)
	for range 2 {
		testHold(t, m, rows[:2:3], true, impl.ErrNone)
	}
	if !slices.Equal(memory, numbers) || !slices.EqualFunc(rows, before, slices.Equal) {
		t.Errorf("arguments were changed: %v, %v", memory, rows)
	}
}
