package tests

import (
	"fmt"
	"testing"

	"loop.example/g01244/impl"
)

// graphOutcomes calls the functions of a level alone.
func graphOutcomes(m impl.Machine, n int64) map[string]outcome {
	edges, edgesCode := impl.LevelEdges(m, n)
	transitive, transitiveCode := impl.IsTransitiveLevel(m, n)
	diameter, diameterCode := impl.DiameterOf(m, n)
	return map[string]outcome{
		"LevelEdges":        {edgesCode, len(edges) == 0},
		"LevelOrbits":       listsOutcome(impl.LevelOrbits(m, n)),
		"IsTransitiveLevel": {transitiveCode, !transitive},
		"DiameterOf":        {diameterCode, diameter == 0},
		"FixedWords":        listOutcome(impl.FixedWords(m, n)),
	}
}

// graphWordOutcomes calls the functions of a level and the number of a word of it.
func graphWordOutcomes(m impl.Machine, n, k int64) map[string]outcome {
	return map[string]outcome{
		"DistancesFrom":  listOutcome(impl.DistancesFrom(m, n, k)),
		"WayTo":          listOutcome(impl.WayTo(m, n, k, 0)),
		"WayTo the word": listOutcome(impl.WayTo(m, n, 0, k)),
		"WayTo itself":   listOutcome(impl.WayTo(m, n, k, k)),
		"LoopsOf":        listsOutcome(impl.LoopsOf(m, n, k)),
	}
}

// graphStateOutcomes calls the functions of a level and a state.
func graphStateOutcomes(m impl.Machine, q, n int64) map[string]outcome {
	turns, code := impl.TurnsLevel(m, q, n)
	return map[string]outcome{
		"CycleType":  listOutcome(impl.CycleType(m, q, n)),
		"TurnsLevel": {code, !turns},
	}
}

// walkOutcomes calls the function of a level and a length.
func walkOutcomes(m impl.Machine, n, length int64) map[string]outcome {
	walks, code := impl.ClosedWalks(m, n, length)
	return map[string]outcome{"ClosedWalks": {code, walks == 0}}
}

// levelsBeside returns numbers that are no levels of a machine.
func levelsBeside(m impl.Machine) []int64 {
	return append([]int64{-2, -1, deepestOf(m) + 1, deepestOf(m) + 2, 40}, farNumbers...)
}

func TestGraphErrorsOfMachines(t *testing.T) {
	for name, m := range badMachines() {
		for _, n := range append([]int64{0, 1, 4, 5, 6, -1}, farNumbers...) {
			allAre(t, name, graphOutcomes(m, n), groupInvalid)
			for _, k := range append([]int64{0, 1, -1, 11, 81}, farNumbers...) {
				allAre(t, name, graphWordOutcomes(m, n, k), groupInvalid)
				allAre(t, name, graphStateOutcomes(m, k, n), groupInvalid)
				allAre(t, name, walkOutcomes(m, n, k), groupInvalid)
			}
		}
	}
}

func TestGraphErrorsOfLevels(t *testing.T) {
	for _, m := range graphMachines(t) {
		for _, n := range levelsBeside(m) {
			what := fmt.Sprintf("%v, level %d", m, n)
			allAre(t, what, graphOutcomes(m, n), groupRange)
			for _, k := range []int64{0, 1, -1, 1000} {
				allAre(t, what, graphWordOutcomes(m, n, k), groupRange)
				allAre(t, what, graphStateOutcomes(m, k, n), groupRange)
				allAre(t, what, walkOutcomes(m, n, k), groupRange)
			}
		}
		// The deepest levels that may be asked for have no such error.
		for name, o := range graphOutcomes(m, deepestOf(m)) {
			if o.code != impl.ErrNone && (name != "DiameterOf" || o.code != impl.ErrState) {
				t.Errorf("%v: %s: %v", m, name, o)
			}
		}
	}
}

func TestGraphErrorsOfWords(t *testing.T) {
	for _, m := range graphMachines(t) {
		for n := range deepestOf(m) + 1 {
			size := int64(len(wordsOf(m.Letters, int(n))))
			for _, k := range append([]int64{-2, -1, size, size + 1, 1000}, farNumbers...) {
				allAre(t, fmt.Sprintf("%v, level %d, word %d", m, n, k), graphWordOutcomes(m, n, k), groupRange)
			}
			for _, k := range []int64{0, size - 1} {
				if distances, code := impl.DistancesFrom(m, n, k); int64(len(distances)) != size || code != impl.ErrNone {
					t.Errorf("DistancesFrom(%v, %d, %d) = %v, %d", m, n, k, distances, code)
				}
			}
		}
	}
}

func TestGraphErrorsOfStates(t *testing.T) {
	for _, m := range graphMachines(t) {
		for n := range deepestOf(m) + 1 {
			for _, q := range append([]int64{-2, -1, m.States, m.States + 1, 16, 256}, farNumbers...) {
				allAre(t, fmt.Sprintf("%v, level %d, state %d", m, n, q), graphStateOutcomes(m, q, n), groupRange)
			}
		}
	}
}

// TestGraphErrorsOfWalks asks for lengths beside their range, and for levels that are too deep for
// walks alone.
func TestGraphErrorsOfWalks(t *testing.T) {
	for _, m := range graphMachines(t) {
		deepest := impl.MaxBetween - m.Letters
		for n := range deepest + 1 {
			for _, length := range append([]int64{-2, -1, impl.MaxSteps + 1, impl.MaxSteps + 2}, farNumbers...) {
				allAre(t, fmt.Sprintf("%v, level %d, length %d", m, n, length), walkOutcomes(m, n, length), groupRange)
			}
		}
		for _, length := range []int64{0, 1, impl.MaxSteps, impl.MaxSteps + 1} {
			allAre(t, fmt.Sprintf("%v, length %d", m, length), walkOutcomes(m, deepest+1, length), groupRange)
		}
	}
}

// TestGraphResultsAreNew spoils results, with the memory behind them: neither other results, nor those
// of a second call may notice.
func TestGraphResultsAreNew(t *testing.T) {
	m := parse(t, "2:0a1a,1a0b")
	exchange := parse(t, "2:1a0a")
	for range 2 {
		checkAndSpoil(t, must(impl.LevelOrbits(exchange, 2)), [][]int64{{0, 3}, {1, 2}})
		checkAndSpoil(t, must(impl.LoopsOf(m, 1, 0)), [][]int64{{1}, {2, 1, -2}, {2, 2}})
		lists := [][]int64{
			must(impl.DistancesFrom(m, 2, 0)), must(impl.WayTo(m, 2, 0, 1)), must(impl.WayTo(m, 2, 1, 0)), must(impl.CycleType(exchange, 0, 2)), must(impl.FixedWords(m, 2)),
		}
		checkAndSpoil(t, lists, [][]int64{{0, 2, 1, 1}, {2, 2}, {2, 2}, {2, 2}, {4, 0}})
		edges := must(impl.LevelEdges(m, 0))
		if len(edges) != 2 || edges[0] != (impl.Edge{}) || edges[1] != (impl.Edge{State: 1}) {
			t.Errorf("LevelEdges = %v", edges)
		}
		clear(edges[:cap(edges)])
	}
}
