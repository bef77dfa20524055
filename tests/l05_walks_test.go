package tests

import (
	"fmt"
	"slices"
	"testing"

	"loop.example/g01244/impl"
)

func TestClosedWalks(t *testing.T) {
	eachLevel(t, func(m impl.Machine, n int64, known level) {
		if n > impl.MaxBetween-m.Letters {
			return
		}
		for _, length := range []int64{0, 1, 2, 3, 7, impl.MaxSteps} {
			want := int64(0)
			for k, row := range known.walksBy(length) {
				want += row[k]
			}
			if got, code := impl.ClosedWalks(m, n, length); got != want || code != impl.ErrNone {
				t.Errorf("ClosedWalks(%v, %d, %d) = %d, %d, not %d", m, n, length, got, code, want)
			}
		}
	})
}

func TestClosedWalksExamples(t *testing.T) {
	examples := []struct {
		machine     string
		level       int64
		length      int64
		walks, code int64
	}{
		{"2:0a1a", 0, 0, 1, impl.ErrNone}, {"2:0a1a", 4, 0, 16, impl.ErrNone}, {"3:1a2a0a", 3, 0, 27, impl.ErrNone}, {"2:1a0a", 1, 1, 0, impl.ErrNone}, {"2:1a0a", 1, 2, 8, impl.ErrNone},
		{"2:0a1a,1a0b", 0, 1, 4, impl.ErrNone}, {"2:0a1a,1a0b", 1, 10, 1 << 20, impl.ErrNone}, {"2:0a1a,1a0b", 2, 1, 8, impl.ErrNone}, {"2:0a1a,1a0b", 2, 2, 24, impl.ErrNone},
		{"3:1a2a0a", 1, 1, 0, impl.ErrNone}, {"3:1a2a0a", 1, 2, 6, impl.ErrNone}, {"3:1a2a0a", 1, 3, 6, impl.ErrNone},
		{"2:0a1a", 4, 10, 16 << 10, impl.ErrNone}, {"2:0a1a", 5, 10, 0, impl.ErrRange}, {"2:0a1a", 4, 11, 0, impl.ErrRange}, {"2:0a1a", 5, 0, 0, impl.ErrRange}, {"2:0a1a", 0, -1, 0, impl.ErrRange},
		{"3:0a1a2a", 3, 10, 27 << 10, impl.ErrNone}, {"3:0a1a2a", 4, 10, 0, impl.ErrRange}, {"3:0a1a2a", 3, 11, 0, impl.ErrRange}, {"3:0a1a2a", 4, 0, 0, impl.ErrRange},
	}
	for _, e := range examples {
		if got, code := impl.ClosedWalks(parse(t, e.machine), e.level, e.length); got != e.walks || code != e.code {
			t.Errorf("ClosedWalks(%s, %d, %d) = %d, %d", e.machine, e.level, e.length, got, code)
		}
	}
	most := withTrivial(parse(t, "3:0a1a2a"), impl.MaxStates)
	if got, code := impl.ClosedWalks(most, 3, impl.MaxSteps); got != 27<<50 || code != impl.ErrNone {
		t.Errorf("the most closed walks are %d, %d", got, code)
	}
}

// TestShortClosedWalks is a part of the guarantee.
func TestShortClosedWalks(t *testing.T) {
	for _, m := range graphMachines(t) {
		for n := range impl.MaxBetween - m.Letters + 1 {
			fixed := int64(0)
			for _, words := range must(impl.FixedWords(m, n)) {
				fixed += words
			}
			if got := must(impl.ClosedWalks(m, n, 1)); got != 2*fixed {
				t.Errorf("ClosedWalks(%v, %d, 1) = %d, but %d words are left", m, n, got, fixed)
			}
		}
	}
}

// someWords returns all words of small levels, and some words of large ones.
func (l level) someWords() []int64 {
	step := max(1, l.size/7)
	var words []int64
	for k := int64(0); k < l.size; k += step {
		words = append(words, k)
	}
	return append(words, l.size-1)
}

func TestWayTo(t *testing.T) {
	codes := map[int64]int{}
	eachLevel(t, func(m impl.Machine, n int64, known level) {
		for _, k := range known.someWords() {
			_, ways := known.treeBy(k)
			for word := range known.size {
				want, met := ways[word]
				wantCode := int64(impl.ErrNone)
				if !met {
					wantCode = impl.ErrState
				}
				if got, code := impl.WayTo(m, n, k, word); !slices.Equal(got, want) || code != wantCode {
					t.Errorf("WayTo(%v, %d, %d, %d) = %v, %d, not %v, %d", m, n, k, word, got, code, want, wantCode)
				}
				codes[wantCode]++
			}
		}
	})
	if codes[impl.ErrNone] < 1000 || codes[impl.ErrState] < 1000 {
		t.Errorf("codes %v", codes)
	}
}

// TestWaysAreShortest follows ways with group words of chapter 2, and compares their lengths with
// distances.
func TestWaysAreShortest(t *testing.T) {
	for _, m := range graphMachines(t) {
		n := deepestOf(m)
		words := wordsOf(m.Letters, int(n))
		for _, k := range []int64{0, int64(len(words)) - 1} {
			for word, distance := range must(impl.DistancesFrom(m, n, k)) {
				way, code := impl.WayTo(m, n, k, int64(word))
				if distance < 0 {
					sameCode(t, "WayTo another orbit", code, impl.ErrState)
					continue
				}
				if code != impl.ErrNone || int64(len(way)) != distance || must(impl.ImageOf(m, way, words[k])) != words[word] {
					t.Errorf("WayTo(%v, %d, %d, %d) = %v, %d", m, n, k, word, way, code)
				}
			}
		}
	}
}

func TestWayToExamples(t *testing.T) {
	examples := []struct {
		machine     string
		level, k, l int64
		want        []int64
		code        int64
	}{
		{"2:0a1a", 0, 0, 0, nil, impl.ErrNone}, {"2:0a1a", 1, 1, 1, nil, impl.ErrNone}, {"2:0a1a", 1, 0, 1, nil, impl.ErrState}, {"2:1a0a", 2, 0, 1, nil, impl.ErrState},
		{"2:1a0a", 1, 0, 1, []int64{1}, impl.ErrNone}, {"2:0a1a,1a0b", 2, 0, 3, []int64{-2}, impl.ErrNone}, {"2:0a1a,1a0b", 2, 0, 1, []int64{2, 2}, impl.ErrNone}, {"2:0a1a,1a0b", 3, 0, 7, []int64{-2}, impl.ErrNone},
		// All states go forward, before the first one goes backward; the least state goes first.
		{"3:1a2a0a,2a0a1a", 1, 0, 2, []int64{2}, impl.ErrNone}, {"3:1a2a0a,0a1a2a", 1, 0, 2, []int64{-1}, impl.ErrNone}, {"2:1b0b,1a0a", 1, 0, 1, []int64{1}, impl.ErrNone},
	}
	for _, e := range examples {
		if got, code := impl.WayTo(parse(t, e.machine), e.level, e.k, e.l); !slices.Equal(got, e.want) || code != e.code {
			t.Errorf("WayTo(%s, %d, %d, %d) = %v, %d", e.machine, e.level, e.k, e.l, got, code)
		}
	}
}

func TestLoopsOf(t *testing.T) {
	codes := map[int64]int{}
	eachLevel(t, func(m impl.Machine, n int64, known level) {
		for _, k := range known.someWords() {
			want, wantCode := known.loopsBy(k), int64(impl.ErrNone)
			if len(want) > impl.MaxLoops {
				want, wantCode = nil, impl.ErrLimit
			}
			if got, code := impl.LoopsOf(m, n, k); !sameWords(got, want) || code != wantCode {
				t.Errorf("LoopsOf(%v, %d, %d) = %v, %d, not %v, %d", m, n, k, got, code, want, wantCode)
			}
			codes[wantCode]++
		}
	})
	if codes[impl.ErrNone] < 1000 || codes[impl.ErrLimit] < 50 {
		t.Errorf("codes %v", codes)
	}
}

// TestLoopsLeadBack is a part of promise 5: loops are followed with chapter 1 alone.
func TestLoopsLeadBack(t *testing.T) {
	eachLevel(t, func(m impl.Machine, n int64, known level) {
		for k := range known.size {
			loops, code := impl.LoopsOf(m, n, k)
			if code == impl.ErrLimit {
				continue
			}
			if len(loops) == 0 {
				t.Errorf("LoopsOf(%v, %d, %d) = %v, %d", m, n, k, loops, code)
			}
			for _, loop := range loops {
				if len(loop) == 0 || known.follow(k, loop) != k {
					t.Errorf("LoopsOf(%v, %d, %d) has %v", m, n, k, loop)
				}
			}
		}
	})
}

func TestLoopsOfExamples(t *testing.T) {
	examples := []struct {
		machine  string
		level, k int64
		want     [][]int64
	}{
		{"2:0a1a", 0, 0, [][]int64{{1}}}, {"2:0a1a", 2, 3, [][]int64{{1}}}, {"2:1a0a", 1, 1, [][]int64{{1, 1}}}, {"2:0a1a,1a0b", 0, 0, [][]int64{{1}, {2}}},
		{"2:0a1a,1a0b", 1, 0, [][]int64{{1}, {2, 1, -2}, {2, 2}}}, {"2:0a1a,1a0b", 1, 1, [][]int64{{1}, {2, 1, -2}, {2, 2}}},
		{"2:0a1a,1a0b", 2, 0, [][]int64{{1}, {2, 1, -2}, {-2, 1, 2}, {2, 2, 1, -2, -2}, {2, 2, 2, 2}}},
		{"3:1a2a0a", 1, 0, [][]int64{{1, 1, 1}}}, {"3:1a0a2a,0a1a2a", 1, 0, [][]int64{{2}, {1, 1}, {1, 2, -1}}}, {"3:1a0a2a,0a1a2a", 1, 2, [][]int64{{1}, {2}}},
	}
	for _, e := range examples {
		if got, code := impl.LoopsOf(parse(t, e.machine), e.level, e.k); !sameWords(got, e.want) || code != impl.ErrNone {
			t.Errorf("LoopsOf(%s, %d, %d) = %v, %d", e.machine, e.level, e.k, got, code)
		}
	}
}

// TestManyLoops has words with numbers of loops near to MaxLoops. There are no words with exactly so
// many: a word in an orbit of a words has (states - 1) a + 1 loops, one at least, and 199 is a prime
// number that is greater than all orbits and all numbers of states. The numbers next to it are 199 and
// 209, as orbits have no other prime divisors than 2 and 3.
func TestManyLoops(t *testing.T) {
	examples := []struct {
		machine      string
		states       int64
		level, orbit int64
	}{
		{eighteen, 12, 3, 18}, {eighteen, 13, 3, 18}, {"2:0a1a,1a0b", 13, 4, 16}, {"2:0a1a,1a0b", 14, 4, 16}, {"2:0a1a,1a0b", 7, 5, 32}, {"2:0a1a,1a0b", 8, 5, 32},
		{"2:0a1a,1a0b", 16, 5, 32}, {"3:0a1a2a,1a2a0b", 3, 4, 81}, {"3:0a1a2a,1a2a0b", 4, 4, 81}, {"3:0a1a2a,1a2a0b", 16, 4, 81}, {"2:0a1a", 16, 5, 1}, {"3:0a1a2a", 1, 4, 1}, {"2:1a0a", 16, 5, 2},
	}
	for _, e := range examples {
		m := withTrivial(parse(t, e.machine), e.states)
		known := levelBy(m, e.level)
		k := known.size / 2
		for _, orbit := range must(impl.LevelOrbits(m, e.level)) {
			if int64(len(orbit)) == e.orbit {
				k = orbit[0]
			}
		}
		want, wantCode := known.loopsBy(k), int64(impl.ErrNone)
		if int64(len(want)) != (e.states-1)*e.orbit+1 {
			t.Errorf("%v has %d loops", e, len(want))
		}
		if len(want) > impl.MaxLoops {
			want, wantCode = nil, impl.ErrLimit
		}
		if got, code := impl.LoopsOf(m, e.level, k); fmt.Sprint(got) != fmt.Sprint(want) || code != wantCode {
			t.Errorf("LoopsOf(%v, %d) = %v, %d", e, k, got, code)
		}
	}
}
