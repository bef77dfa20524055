package tests

import (
	"fmt"
	"slices"
	"testing"

	"loop.example/g01244/impl"
)

// Machines with small groups: those of the 8 and 6 ways to move a square and a triangle.
const (
	square   = "2:0a1a,1a0a,0b1a"
	triangle = "3:0a1a2a,1a2a0a,1a0a2a"
)

func TestGrowthConstants(t *testing.T) {
	if impl.MaxBall != 200 || impl.MaxRadius != 5 {
		t.Errorf("limits %d, %d", impl.MaxBall, impl.MaxRadius)
	}
}

// expectWords compares a list of words and a code with what they have to be.
func expectWords(t *testing.T, what string, got [][]int64, code int64, want [][]int64, wantCode int64) {
	t.Helper()
	if !sameWords(got, want) || code != wantCode {
		t.Errorf("%s = %v, %d, not %v, %d", what, got, code, want, wantCode)
	}
}

func TestGeneratorsOf(t *testing.T) {
	met := map[string]int{}
	eachGrower(t, func(what string, g grower) {
		got, code := impl.GeneratorsOf(g.machine)
		want, wantCode := g.generatorsBy()
		if !slices.Equal(got, want) || code != wantCode {
			t.Errorf("GeneratorsOf(%s) = %v, %d, not %v, %d", what, got, code, want, wantCode)
		}
		met[fmt.Sprint("code ", code)]++
		met[fmt.Sprint("number ", len(got))]++
	})
	for _, what := range []string{"code 0", "code 3", "number 0", "number 1", "number 8", "number 9", "number 32"} {
		if met[what] == 0 {
			t.Errorf("no machine has %s: %v", what, met)
		}
	}
}

func TestGeneratorsOfExamples(t *testing.T) {
	examples := map[string][]int64{
		adding:             {2, -2},
		"2:0a1a,1a0a":      {2},
		"2:0a1a":           {},
		"3:0a1a2a":         {},
		"2:0b1c,0c1c,0a1b": {},
		"2:1a0a":           {1},
		"3:1a2a0a":         {1, -1},
		grigorchuk:         {2, 3, 4, 5},
		hanoi:              {2, 3, 4},
		square:             {2, 3},
		triangle:           {2, -2, 3},
		aleshin:            {1, -1, 2, -2, 3, -3},
		"2:1a0a,0b1b,1b0c": {1, 3, -3},
		"2:1b0b,0b1b,1b0b": {1},
		// Equal states, of which the least one tells the generator, and trivial ones beside the state 0.
		"2:0a1a,1a0c,1a0b":              {2, -2},
		"2:0c1c,1a0d,0a1a,1c0b":         {2, -2},
		"2:0c1b,1a0d,0a1d,1c0b":         {1, -1, 2, -2},
		"3:1a2a0a,0b1b2b,1c2c0c,1a2c0a": {1, -1},
		// States that are inverse to each other.
		"3:0a1a2a,1a2a0a,0b1c2d,2a0a1a": {2, -2, 3, -3, 4, -4},
		"2:0a1a,1a0b,0c1c,1d0c":         {2, -2, 4, -4},
	}
	for text, want := range examples {
		got, code := impl.GeneratorsOf(parse(t, text))
		expectList(t, "GeneratorsOf("+text+")", got, code, want)
	}
}

// TestBalls compares all balls with those of the document's search.
func TestBalls(t *testing.T) {
	met := map[string]int{}
	eachGrower(t, func(what string, g grower) {
		for r := range int64(impl.MaxRadius + 1) {
			what := fmt.Sprint(what, r)
			want, wantCode := g.ballBy(r)
			got, code := impl.BallOf(g.machine, r)
			expectWords(t, "BallOf "+what, got, code, want, wantCode)
			wantSizes, _ := g.sizesBy(r)
			sizes, code := impl.SphereSizes(g.machine, r)
			if !slices.Equal(sizes, wantSizes) || code != wantCode {
				t.Errorf("SphereSizes %s = %v, %d, not %v, %d", what, sizes, code, wantSizes, wantCode)
			}
			met[fmt.Sprint("radius ", r, " code ", code)]++
			if slices.Contains(sizes, 0) {
				met["empty sphere"]++
			}
		}
	})
	for _, what := range []string{"radius 0 code 3", "radius 2 code 3", "radius 5 code 3", "radius 5 code 0", "empty sphere"} {
		if met[what] == 0 {
			t.Errorf("no ball has %s: %v", what, met)
		}
	}
}

func TestBallOfExamples(t *testing.T) {
	examples := []struct {
		machine string
		r       int64
		want    [][]int64
	}{
		{adding, 0, [][]int64{nil}},
		{adding, 1, [][]int64{nil, {2}, {-2}}},
		{adding, 2, [][]int64{nil, {2}, {-2}, {2, 2}, {-2, -2}}},
		{"2:0a1a", 0, [][]int64{nil}},
		{"2:0a1a", 5, [][]int64{nil}},
		{"3:0b1b2b,0a1b2a", 5, [][]int64{nil}},
		{"2:1a0a", 5, [][]int64{nil, {1}}},
		{"2:1b0b,0b1b,1b0b", 5, [][]int64{nil, {1}}},
		{"3:1a2a0a", 1, [][]int64{nil, {1}, {-1}}},
		{square, 3, [][]int64{nil, {2}, {3}, {2, 3}, {3, 2}, {2, 3, 2}, {3, 2, 3}}},
		{square, 4, [][]int64{nil, {2}, {3}, {2, 3}, {3, 2}, {2, 3, 2}, {3, 2, 3}, {2, 3, 2, 3}}},
		{square, 5, [][]int64{nil, {2}, {3}, {2, 3}, {3, 2}, {2, 3, 2}, {3, 2, 3}, {2, 3, 2, 3}}},
		{triangle, 2, [][]int64{nil, {2}, {-2}, {3}, {2, 3}, {-2, 3}}},
		{"3:0a1a2a,1a2a0a,0b1c2d,2a0a1a", 1, [][]int64{nil, {2}, {-2}, {3}, {-3}}},
		// The state 3 is inverse to the state 1, so that 4 is equal to -2, which comes ahead of it.
		{"2:0a1a,1a0b,0c1c,1d0c", 2, [][]int64{nil, {2}, {-2}, {2, 2}, {-2, -2}}},
		{grigorchuk, 2, [][]int64{nil, {2}, {3}, {4}, {5}, {2, 3}, {2, 4}, {2, 5}, {3, 2}, {4, 2}, {5, 2}}},
	}
	for _, e := range examples {
		got, code := impl.BallOf(parse(t, e.machine), e.r)
		expectWords(t, fmt.Sprint("BallOf ", e.machine, e.r), got, code, e.want, impl.ErrNone)
	}
}

func TestSphereSizesExamples(t *testing.T) {
	examples := map[string][]int64{
		adding:        {1, 2, 2, 2, 2, 2},
		adding3:       {1, 2, 2, 2, 2, 2},
		"2:0a1a":      {1, 0, 0, 0, 0, 0},
		"2:1a0a":      {1, 1, 0, 0, 0, 0},
		"3:1a2a0a":    {1, 2, 0, 0, 0, 0},
		square:        {1, 2, 2, 2, 1, 0},
		triangle:      {1, 3, 2, 0, 0, 0},
		grigorchuk:    {1, 4, 6, 12, 17, 28},
		hanoi:         {1, 3, 6, 12, 24, 48},
		"2:0b1b,1a0a": {1, 2, 1, 0, 0, 0},
	}
	for text, want := range examples {
		for r := range int64(impl.MaxRadius + 1) {
			got, code := impl.SphereSizes(parse(t, text), r)
			expectList(t, fmt.Sprint("SphereSizes ", text, r), got, code, want[:r+1])
		}
	}
}

// TestBallsOfMaxBall has balls of the most words that there may be, and of one more. Nothing but their size
// ends the latter ones: balls with one word fewer are found, and so are all machines of words.
func TestBallsOfMaxBall(t *testing.T) {
	for text, r := range ballOf200 {
		m := parse(t, text)
		sizes, code := impl.SphereSizes(m, r)
		ball, ballCode := impl.BallOf(m, r)
		sum := int64(0)
		for _, size := range sizes {
			sum += size
		}
		if sum != impl.MaxBall || len(ball) != impl.MaxBall || code != impl.ErrNone || ballCode != impl.ErrNone {
			t.Errorf("%s, %d: sizes %v, %d words, codes %d, %d", text, r, sizes, len(ball), code, ballCode)
		}
		if r < impl.MaxRadius {
			expectLimit(t, m, r+1)
		}
	}
	for text, r := range ballOf201 {
		m := parse(t, text)
		expectLimit(t, m, r)
		if number := countElements(m, r); number != impl.MaxBall+1 {
			t.Errorf("the ball of %s, %d has %d words", text, r, number)
		}
		if ball, code := impl.BallOf(m, r-1); code != impl.ErrNone || len(ball) == 0 {
			t.Errorf("BallOf %s, %d: %d words, code %d", text, r-1, len(ball), code)
		}
	}
}

// expectLimit expects that a ball of m is given up.
func expectLimit(t *testing.T, m impl.Machine, r int64) {
	t.Helper()
	want := outcome{impl.ErrLimit, true}
	allAre(t, fmt.Sprintf("%v, radius %d", m, r), ballOutcomes(m, r), want)
}

// countElements counts the different words of at most r generators. It panics if one has no machine.
func countElements(m impl.Machine, r int64) int {
	machines := map[impl.Machine]bool{}
	words := [][]int64{nil}
	generators := must(impl.GeneratorsOf(m))
	for range r + 1 {
		var longer [][]int64
		for _, word := range words {
			machine := must(impl.MachineOfWord(m, word))
			if machines[machine] {
				continue
			}
			machines[machine] = true
			for _, s := range generators {
				longer = append(longer, slices.Concat(word, []int64{s}))
			}
		}
		words = longer
	}
	return len(machines)
}

// TestBallsGivenUpByGenerators has machines whose generators cannot be found, for which all functions fail at
// all radii, also where no generator would be needed.
func TestBallsGivenUpByGenerators(t *testing.T) {
	want := outcome{impl.ErrLimit, true}
	for i, text := range endlessSquares {
		m := parse(t, text)
		k := []int64{1, 1, 15}[i]
		if _, code := impl.AreEqualWords(m, []int64{k}, []int64{-k}); code != impl.ErrLimit {
			t.Errorf("%s has the code %d", text, code)
		}
		allAre(t, text, generatorOutcomes(m), want)
		for r := range int64(impl.MaxRadius + 1) {
			allAre(t, text, ballOutcomes(m, r), want)
			for _, g := range [][]int64{nil, {1}, {16}, {2, -2}} {
				allAre(t, text, lengthOfOutcomes(m, g, r), want)
			}
		}
		for l := int64(1); l <= 4; l++ {
			allAre(t, text, relationOutcomes(m, l), want)
		}
	}
}

// TestBallsAreFirstWords lists all words of generators, and keeps the first one of each set of equal ones.
func TestBallsAreFirstWords(t *testing.T) {
	checked := 0
	eachGrower(t, func(what string, g grower) {
		var want [][]int64
		machines := map[impl.Machine]bool{}
		for r := int64(0); r < int64(len(g.spheres)) && powerBy(int64(len(g.generators)), int(r)) <= 300; r++ {
			for _, word := range g.allWords(r) {
				machine, code := g.machineBy(word)
				if code != impl.ErrNone {
					return
				}
				if !machines[machine] {
					machines[machine] = true
					want = append(want, word)
				}
			}
			got, code := impl.BallOf(g.machine, r)
			expectWords(t, fmt.Sprint("BallOf ", what, r), got, code, want, impl.ErrNone)
			checked++
		}
	})
	if checked < 300 {
		t.Errorf("%d balls were checked", checked)
	}
}

// TestPromise10OfBalls: balls have no equal words, and each sphere is at most as great as the sphere before
// times the generators.
func TestPromise10OfBalls(t *testing.T) {
	pairs := 0
	eachGrower(t, func(what string, g grower) {
		generators, _ := impl.GeneratorsOf(g.machine)
		for r := range int64(impl.MaxRadius + 1) {
			ball, code := impl.BallOf(g.machine, r)
			if code != impl.ErrNone {
				return
			}
			if len(ball) <= 100 {
				for i, word := range ball {
					for _, other := range ball[:i] {
						if same, code := impl.AreEqualWords(g.machine, word, other); same && code == impl.ErrNone {
							t.Errorf("the ball %s, %d has the equal words %v and %v", what, r, word, other)
						}
						pairs++
					}
				}
			}
			sizes := must(impl.SphereSizes(g.machine, r))
			for n, size := range sizes[1:] {
				if size > sizes[n]*int64(len(generators)) {
					t.Errorf("%s has spheres of the sizes %v, and %d generators", what, sizes, len(generators))
				}
			}
		}
	})
	if pairs < 10000 {
		t.Errorf("there are %d pairs", pairs)
	}
}
