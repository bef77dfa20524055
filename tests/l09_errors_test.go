package tests

import (
	"fmt"
	"testing"

	"loop.example/g01244/impl"
)

// tileOutcomes calls the functions of a level alone.
func tileOutcomes(m impl.Machine, n int64) map[string]outcome {
	return map[string]outcome{
		"BoundaryWords": listOutcome(impl.BoundaryWords(m, n)),
		"TileEdges":     listsOutcome(impl.TileEdges(m, n)),
		"TileParts":     listsOutcome(impl.TileParts(m, n)),
		"IsOneTile":     boolOutcome(impl.IsOneTile(m, n)),
	}
}

// kindOutcomes calls the functions of a state alone.
func kindOutcomes(m impl.Machine, q int64) map[string]outcome {
	return map[string]outcome{
		"KindOfState":  listOutcome(impl.KindOfState(m, q)),
		"DepthOfState": numberOutcome(impl.DepthOfState(m, q)),
	}
}

// lengthOutcomes and the two others call the functions of a state and a length, a level, or a word.
func lengthOutcomes(m impl.Machine, q int64, n int64) map[string]outcome {
	return map[string]outcome{"ActivityCounts": listOutcome(impl.ActivityCounts(m, q, n))}
}

func returnLevelOutcomes(m impl.Machine, q int64, n int64) map[string]outcome {
	return map[string]outcome{"ReturnWords": listOutcome(impl.ReturnWords(m, q, n))}
}

func activeOutcomes(m impl.Machine, q int64, w string) map[string]outcome {
	return map[string]outcome{"ActiveAt": boolOutcome(impl.ActiveAt(m, q, w))}
}

func TestActivityErrorsOfMachines(t *testing.T) {
	for name, m := range badMachines() {
		bounded := map[string]outcome{"IsBoundedMachine": boolOutcome(impl.IsBoundedMachine(m))}
		allAre(t, name, bounded, groupInvalid)
		for _, n := range append([]int64{0, 1, 4, 5, 6, 20, 21, -1}, farNumbers...) {
			allAre(t, name, tileOutcomes(m, n), groupInvalid)
			for _, q := range append([]int64{0, 1, -1, 16}, farNumbers...) {
				allAre(t, name, kindOutcomes(m, q), groupInvalid)
				allAre(t, name, lengthOutcomes(m, q, n), groupInvalid)
				allAre(t, name, returnLevelOutcomes(m, q, n), groupInvalid)
			}
		}
		for _, w := range append([]string{"", "0", "01"}, badWords(2)...) {
			allAre(t, name, activeOutcomes(m, 0, w), groupInvalid)
			allAre(t, name, activeOutcomes(m, -1, w), groupInvalid)
		}
	}
}

func TestActivityErrorsOfStates(t *testing.T) {
	for _, m := range activityMachines(t) {
		for _, q := range append([]int64{-2, -1, m.States, m.States + 1, 16, 17, 256}, farNumbers...) {
			what := fmt.Sprintf("%v, state %d", m, q)
			allAre(t, what, kindOutcomes(m, q), groupRange)
			for _, n := range []int64{0, 1, 20, 21, -1} {
				allAre(t, what, lengthOutcomes(m, q, n), groupRange)
				allAre(t, what, returnLevelOutcomes(m, q, n), groupRange)
			}
			for _, w := range []string{"", "0", "10"} {
				allAre(t, what, activeOutcomes(m, q, w), groupRange)
			}
		}
	}
}

func TestActivityErrorsOfLengths(t *testing.T) {
	for _, m := range activityMachines(t) {
		for _, n := range append([]int64{-2, -1, impl.MaxLength + 1, impl.MaxLength + 2, 40}, farNumbers...) {
			for _, q := range []int64{0, m.States - 1, m.States, -1} {
				allAre(t, fmt.Sprintf("%v, state %d, length %d", m, q, n), lengthOutcomes(m, q, n), groupRange)
			}
		}
	}
}

func TestActivityErrorsOfLevels(t *testing.T) {
	for _, m := range activityMachines(t) {
		for _, n := range levelsBeside(m) {
			what := fmt.Sprintf("%v, level %d", m, n)
			allAre(t, what, tileOutcomes(m, n), groupRange)
			for _, q := range []int64{0, m.States - 1, m.States, -1} {
				allAre(t, what, returnLevelOutcomes(m, q, n), groupRange)
			}
		}
		// The deepest levels that may be asked for have no such error.
		outcomes := tileOutcomes(m, deepestOf(m))
		outcomes["ReturnWords"] = returnLevelOutcomes(m, 0, deepestOf(m))["ReturnWords"]
		for name, o := range outcomes {
			if o.code != impl.ErrNone {
				t.Errorf("%v: %s: %v", m, name, o)
			}
		}
	}
}

// TestActivityErrorsOfWords has things that are no words, for which the state does not matter.
func TestActivityErrorsOfWords(t *testing.T) {
	for _, m := range activityMachines(t) {
		for _, w := range badWords(m.Letters) {
			for _, q := range append([]int64{0, m.States - 1, m.States, -1}, farNumbers...) {
				allAre(t, fmt.Sprintf("%v, state %d, %.50q", m, q, w), activeOutcomes(m, q, w), groupInvalid)
			}
		}
	}
}

// TestActivityErrorsOfDepths has the one error that is told by the chapter alone, behind all others.
func TestActivityErrorsOfDepths(t *testing.T) {
	for _, text := range []string{"2:1a0a", "2:0a1a,1a0b,0b1a", "3:0a1a2a,1a2a0b"} {
		m := parse(t, text)
		for q := range m.States {
			want := outcome{impl.ErrState, true}
			if q == 0 && m.States > 1 {
				want = outcome{impl.ErrNone, true}
			}
			if got := numberOutcome(impl.DepthOfState(m, q)); got != want {
				t.Errorf("DepthOfState(%s, %d): %v", text, q, got)
			}
		}
		if got := numberOutcome(impl.DepthOfState(m, m.States)); got != groupRange {
			t.Errorf("DepthOfState(%s, %d): %v", text, m.States, got)
		}
	}
}

// TestActivityResultsAreNew spoils results, with the memory behind them: neither other results, nor those of a
// second call may notice.
func TestActivityResultsAreNew(t *testing.T) {
	m := parse(t, "2:0a1a,1a0b")
	finite := parse(t, "2:0a1a,1a0a")
	both := parse(t, "2:1a0a")
	slope := parse(t, "2:0a1a,1a0b,0c1b")
	for range 2 {
		checkAndSpoil(t, must(impl.TileEdges(m, 2)), [][]int64{{0, 2}, {1, 2}, {1, 3}})
		checkAndSpoil(t, must(impl.TileParts(finite, 2)), [][]int64{{0, 2}, {1, 3}})
		lists := [][]int64{
			must(impl.ActivityCounts(m, 1, 2)), must(impl.ReturnWords(m, 1, 2)), must(impl.BoundaryWords(m, 2)),
			must(impl.KindOfState(finite, 1)), must(impl.KindOfState(m, 1)), must(impl.KindOfState(slope, 2)), must(impl.KindOfState(both, 0)), must(impl.KindOfState(both, 0)),
		}
		checkAndSpoil(t, lists, [][]int64{{1, 1, 1}, {3}, {3}, {0, 0}, {1, 0}, {1, 1}, {2, 0}, {2, 0}})
		edges := must(impl.TileEdges(m, 2))
		for i := range edges {
			_ = append(edges[i], 99)
		}
		checkAndSpoil(t, edges, [][]int64{{0, 2}, {1, 2}, {1, 3}})
	}
}
