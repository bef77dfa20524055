package tests

import (
	"fmt"
	"slices"
	"testing"

	"loop.example/g01244/impl"
)

// generatorOutcomes calls the functions of a machine alone.
func generatorOutcomes(m impl.Machine) map[string]outcome {
	return map[string]outcome{
		"GeneratorsOf":   listOutcome(impl.GeneratorsOf(m)),
		"IsAbelianGroup": boolOutcome(impl.IsAbelianGroup(m)),
	}
}

// ballOutcomes calls the functions of a radius.
func ballOutcomes(m impl.Machine, r int64) map[string]outcome {
	return map[string]outcome{
		"BallOf":        listsOutcome(impl.BallOf(m, r)),
		"SphereSizes":   listOutcome(impl.SphereSizes(m, r)),
		"CentralInBall": listsOutcome(impl.CentralInBall(m, r)),
	}
}

// lengthOfOutcomes and relationOutcomes call the functions of a group word and a radius, and of a length.
func lengthOfOutcomes(m impl.Machine, g []int64, r int64) map[string]outcome {
	return map[string]outcome{
		"LengthOfWord": numberOutcome(impl.LengthOfWord(m, g, r)),
		"ShortestWord": listOutcome(impl.ShortestWord(m, g, r)),
	}
}

func relationOutcomes(m impl.Machine, l int64) map[string]outcome {
	return map[string]outcome{"RelationsOf": listsOutcome(impl.RelationsOf(m, l))}
}

// farRadii and farLengths are out of range.
var (
	farRadii   = append([]int64{-2, -1, impl.MaxRadius + 1, impl.MaxRadius + 2, 100}, farNumbers...)
	farLengths = append([]int64{-2, -1, 0, 5, 6, 100}, farNumbers...)
)

func TestGrowthErrorsOfMachines(t *testing.T) {
	for name, m := range badMachines() {
		allAre(t, name, generatorOutcomes(m), groupInvalid)
		for _, r := range append([]int64{0, 1, impl.MaxRadius}, farRadii...) {
			allAre(t, name, ballOutcomes(m, r), groupInvalid)
			for _, g := range [][]int64{nil, {1}, {0}, slices.Repeat([]int64{1}, impl.MaxGroup+1)} {
				allAre(t, name, lengthOfOutcomes(m, g, r), groupInvalid)
			}
		}
		for _, l := range append([]int64{1, 4}, farLengths...) {
			allAre(t, name, relationOutcomes(m, l), groupInvalid)
		}
	}
}

func TestGrowthErrorsOfGroups(t *testing.T) {
	for _, m := range growthMachines(t) {
		for _, g := range badGroups(m) {
			for _, r := range []int64{0, impl.MaxRadius, -1, impl.MaxRadius + 1} {
				allAre(t, fmt.Sprintf("%d states, %.45v, %d", m.States, g, r), lengthOfOutcomes(m, g, r), groupInvalid)
			}
		}
	}
}

// TestGrowthErrorsOfRanges has machines, too, whose generators cannot be found, and of too many generators: this
// is not asked for.
func TestGrowthErrorsOfRanges(t *testing.T) {
	for _, m := range growthMachines(t) {
		for _, r := range farRadii {
			what := fmt.Sprintf("%v, radius %d", m, r)
			allAre(t, what, ballOutcomes(m, r), groupRange)
			for _, g := range [][]int64{nil, {1}, {-m.States}, slices.Repeat([]int64{m.States}, impl.MaxGroup)} {
				allAre(t, what, lengthOfOutcomes(m, g, r), groupRange)
			}
		}
		for _, l := range farLengths {
			allAre(t, fmt.Sprintf("%v, length %d", m, l), relationOutcomes(m, l), groupRange)
		}
	}
}

// TestGrowthErrorsOfLongWords has group words without a machine: they are ErrLimit at all radii, behind the range
// of the radius, and whether or not the spheres can be found.
func TestGrowthErrorsOfLongWords(t *testing.T) {
	for _, text := range []string{aleshin, lamplighter, "2:1c0b,1b0c,0a1a,0d1d"} {
		m := parse(t, text)
		var long []int64
		d := dice(3)
		for n := int64(1); long == nil && n <= impl.MaxGroup; n++ {
			if g := randomGroup(&d, m, n); !hasMachine(m, g) {
				long = g
			}
		}
		for r := range int64(impl.MaxRadius + 1) {
			allAre(t, fmt.Sprint(text, long, r), lengthOfOutcomes(m, long, r), outcome{impl.ErrLimit, true})
		}
		allAre(t, fmt.Sprint(text, long), lengthOfOutcomes(m, long, impl.MaxRadius+1), groupRange)
	}
}

func hasMachine(m impl.Machine, g []int64) bool {
	_, code := impl.MachineOfWord(m, g)
	return code == impl.ErrNone
}

// TestGrowthArgumentsAreLeft gives words with spare memory behind them, which no function may change.
func TestGrowthArgumentsAreLeft(t *testing.T) {
	m := parse(t, triangle)
	memory := slices.Repeat([]int64{2, -3, 1, -2, 7}, 10)
	before := slices.Clone(memory)
	for r := range int64(impl.MaxRadius + 1) {
		for n := range 5 {
			lengthOfOutcomes(m, memory[:n:30], r)
			lengthOfOutcomes(m, memory[:n], r)
		}
	}
	if !slices.Equal(memory, before) {
		t.Errorf("the arguments became %v", memory)
	}
}

// TestGrowthResultsAreNew spoils results, with the memory behind them: neither the arguments, nor other results,
// nor those of a second call may notice.
func TestGrowthResultsAreNew(t *testing.T) {
	m := parse(t, square)
	g := []int64{2, 3, 2}
	for range 2 {
		checkAndSpoil(t, must(impl.BallOf(m, 4)), [][]int64{nil, {2}, {3}, {2, 3}, {3, 2}, {2, 3, 2}, {3, 2, 3}, {2, 3, 2, 3}})
		checkAndSpoil(t, must(impl.CentralInBall(m, 4)), [][]int64{nil, {2, 3, 2, 3}})
		checkAndSpoil(t, must(impl.RelationsOf(parse(t, triangle), 4)), [][]int64{{2, 3, 2, 3}, {-2, 3, -2, 3}, {3, 2, 3, 2}, {3, -2, 3, -2}})
		lists := [][]int64{
			must(impl.GeneratorsOf(m)), must(impl.GeneratorsOf(m)), must(impl.SphereSizes(m, 4)), must(impl.SphereSizes(m, 4)),
			must(impl.ShortestWord(m, g, 3)), must(impl.ShortestWord(m, g, 3)),
		}
		checkAndSpoil(t, lists, [][]int64{{2, 3}, {2, 3}, {1, 2, 2, 2, 1}, {1, 2, 2, 2, 1}, {2, 3, 2}, {2, 3, 2}})
	}
	if !slices.Equal(g, []int64{2, 3, 2}) {
		t.Errorf("the argument became %v", g)
	}
}
