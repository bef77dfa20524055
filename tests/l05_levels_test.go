package tests

import (
	"slices"
	"testing"

	"loop.example/g01244/impl"
)

func TestGraphConstants(t *testing.T) {
	if impl.MaxSteps != 10 || impl.MaxLoops != 200 || impl.MaxBetween != 6 {
		t.Errorf("limits %d, %d, %d", impl.MaxSteps, impl.MaxLoops, impl.MaxBetween)
	}
}

func TestLevels(t *testing.T) {
	transitive := map[bool]int{}
	eachLevel(t, func(m impl.Machine, n int64, known level) {
		if got, code := impl.LevelEdges(m, n); !slices.Equal(got, known.edgesBy()) || code != impl.ErrNone {
			t.Errorf("LevelEdges(%v, %d) = %v, %d", m, n, got, code)
		}
		distances := known.distancesBy()
		orbits := orbitsBy(distances)
		if got, code := impl.LevelOrbits(m, n); !sameWords(got, orbits) || code != impl.ErrNone {
			t.Errorf("LevelOrbits(%v, %d) = %v, %d, not %v", m, n, got, code, orbits)
		}
		one := len(orbits) == 1
		transitive[one]++
		if got, code := impl.IsTransitiveLevel(m, n); got != one || code != impl.ErrNone {
			t.Errorf("IsTransitiveLevel(%v, %d) = %v, %d", m, n, got, code)
		}
		for k, want := range distances {
			got, code := impl.DistancesFrom(m, n, int64(k))
			expectList(t, "DistancesFrom", got, code, want)
		}
		diameter, wantCode := int64(0), int64(impl.ErrState)
		if one {
			diameter, wantCode = slices.Max(slices.Concat(distances...)), impl.ErrNone
		}
		if got, code := impl.DiameterOf(m, n); got != diameter || code != wantCode {
			t.Errorf("DiameterOf(%v, %d) = %d, %d, not %d, %d", m, n, got, code, diameter, wantCode)
		}
	})
	if transitive[true] < 100 || transitive[false] < 100 {
		t.Errorf("levels are transitive or not: %v", transitive)
	}
}

// TestOrbitsDivideLevels is a part of promise 5, and has what states do from chapter 1 alone.
func TestOrbitsDivideLevels(t *testing.T) {
	for _, m := range graphMachines(t) {
		for n := range deepestOf(m) + 1 {
			orbits := must(impl.LevelOrbits(m, n))
			size := int64(len(wordsOf(m.Letters, int(n))))
			places := map[int64]int{}
			for i, orbit := range orbits {
				if len(orbit) == 0 || !slices.IsSorted(orbit) || i > 0 && orbits[i-1][0] >= orbit[0] {
					t.Errorf("LevelOrbits(%v, %d) = %v", m, n, orbits)
				}
				for _, k := range orbit {
					if _, met := places[k]; met || k < 0 || k >= size {
						t.Errorf("LevelOrbits(%v, %d) = %v", m, n, orbits)
					}
					places[k] = i
				}
			}
			if int64(len(places)) != size {
				t.Errorf("LevelOrbits(%v, %d) = %v", m, n, orbits)
			}
			for q := range m.States {
				for k, image := range must(impl.LevelPermutation(m, q, n)) {
					if places[int64(k)] != places[image] {
						t.Errorf("the state %d of %v leads %d to %d, out of its orbit", q, m, k, image)
					}
				}
			}
		}
	}
}

// TestDistancesHaveNoDirection is a part of the guarantee.
func TestDistancesHaveNoDirection(t *testing.T) {
	for _, m := range graphMachines(t) {
		n := deepestOf(m)
		var rows [][]int64
		for k := range int64(len(wordsOf(m.Letters, int(n)))) {
			rows = append(rows, must(impl.DistancesFrom(m, n, k)))
		}
		for i := range rows {
			for j := range rows {
				if rows[i][j] != rows[j][i] {
					t.Errorf("%v: from %d to %d there are %d steps, back %d", m, i, j, rows[i][j], rows[j][i])
				}
			}
		}
	}
}

func TestLevelEdgesExamples(t *testing.T) {
	examples := []struct {
		machine string
		level   int64
		want    [][3]int64
	}{
		{"2:0a1a", 0, [][3]int64{{0, 0, 0}}}, {"3:1a0a2a,0a1a2a", 0, [][3]int64{{0, 0, 0}, {0, 1, 0}}},
		{"2:0a1a,1a0b", 1, [][3]int64{{0, 0, 0}, {0, 1, 1}, {1, 0, 1}, {1, 1, 0}}},
		{"2:1b0a,0b1b", 2, [][3]int64{{0, 0, 2}, {0, 1, 0}, {1, 0, 3}, {1, 1, 1}, {2, 0, 1}, {2, 1, 2}, {3, 0, 0}, {3, 1, 3}}},
		{"3:1a2a0a", 1, [][3]int64{{0, 0, 1}, {1, 0, 2}, {2, 0, 0}}},
	}
	for _, e := range examples {
		var want []impl.Edge
		for _, edge := range e.want {
			want = append(want, impl.Edge{From: edge[0], State: edge[1], To: edge[2]})
		}
		if got, code := impl.LevelEdges(parse(t, e.machine), e.level); !slices.Equal(got, want) || code != impl.ErrNone {
			t.Errorf("LevelEdges(%s, %d) = %v, %d", e.machine, e.level, got, code)
		}
	}
}

func TestLevelOrbitsExamples(t *testing.T) {
	examples := []struct {
		machine string
		level   int64
		want    [][]int64
	}{
		{"2:0a1a", 0, [][]int64{{0}}}, {"2:0a1a", 2, [][]int64{{0}, {1}, {2}, {3}}}, {"2:1a0a", 1, [][]int64{{0, 1}}}, {"2:1a0a", 2, [][]int64{{0, 3}, {1, 2}}},
		{"2:0b1b,1b0b", 2, [][]int64{{0, 1, 2, 3}}}, {"3:1a0a2b,0a1a2a", 2, [][]int64{{0, 1, 3, 4}, {2, 5}, {6, 7}, {8}}},
		{"3:1a0a2a", 1, [][]int64{{0, 1}, {2}}}, {"3:2a1a0a", 2, [][]int64{{0, 8}, {1, 7}, {2, 6}, {3, 5}, {4}}}, {"3:0a2a1a,2a1a0a", 1, [][]int64{{0, 1, 2}}},
	}
	for _, e := range examples {
		if got, code := impl.LevelOrbits(parse(t, e.machine), e.level); code != impl.ErrNone || !sameWords(got, e.want) {
			t.Errorf("LevelOrbits(%s, %d) = %v, %d", e.machine, e.level, got, code)
		}
	}
}

func TestDistancesExamples(t *testing.T) {
	examples := []struct {
		machine  string
		level, k int64
		want     []int64
	}{
		{"2:0a1a", 0, 0, []int64{0}}, {"2:0a1a", 1, 1, []int64{-1, 0}}, {"2:1a0a", 2, 1, []int64{-1, 0, 1, -1}}, {"2:0a1a,1a0b", 2, 0, []int64{0, 2, 1, 1}},
		{"2:0a1a,1a0b", 3, 2, []int64{2, 2, 0, 4, 1, 3, 1, 3}}, {"3:1a2a0a", 1, 0, []int64{0, 1, 1}}, {"3:1a0a2a,0a2a1a", 1, 0, []int64{0, 1, 2}},
	}
	for _, e := range examples {
		got, code := impl.DistancesFrom(parse(t, e.machine), e.level, e.k)
		expectList(t, e.machine, got, code, e.want)
	}
}

func TestDiameterExamples(t *testing.T) {
	examples := []struct {
		machine  string
		level    int64
		diameter int64
		code     int64
	}{
		{"2:0a1a", 0, 0, impl.ErrNone}, {"3:0a1a2a", 0, 0, impl.ErrNone}, {"2:0a1a", 1, 0, impl.ErrState}, {"2:1a0a", 1, 1, impl.ErrNone}, {"2:1a0a", 2, 0, impl.ErrState},
		{"2:0a1a,1a0b", 3, 4, impl.ErrNone}, {"2:0a1a,1a0b", 5, 16, impl.ErrNone}, {"3:0a1a2a,1a2a0b", 4, 40, impl.ErrNone},
		{"2:0a1a,1a0a,0b1d,0b1e,0a1c", 3, 7, impl.ErrNone}, {"2:0a1a,1a0a,0b1d,0b1e,0a1c", 5, 31, impl.ErrNone}, {"3:1a0a2a", 4, 0, impl.ErrState}, {"3:0a1a2a,1a0a2b,2a1c0a,0d2a1a", 4, 15, impl.ErrNone},
	}
	for _, e := range examples {
		if got, code := impl.DiameterOf(parse(t, e.machine), e.level); got != e.diameter || code != e.code {
			t.Errorf("DiameterOf(%s, %d) = %d, %d", e.machine, e.level, got, code)
		}
		if got, code := impl.IsTransitiveLevel(parse(t, e.machine), e.level); got != (e.code == impl.ErrNone) || code != impl.ErrNone {
			t.Errorf("IsTransitiveLevel(%s, %d) = %v, %d", e.machine, e.level, got, code)
		}
	}
}
