package tests

import (
	"runtime"
	"slices"
	"testing"

	"loop.example/g01244/impl"
)

// eachTiles calls a check for all levels of some machines.
func eachTiles(t *testing.T, check func(o observer, n int64)) {
	for _, m := range activityMachines(t) {
		o := observerOf(m)
		for n := range deepestOf(m) + 1 {
			check(o, n)
		}
	}
}

func TestReturnWords(t *testing.T) {
	eachTiles(t, func(o observer, n int64) {
		for q := range o.machine.States {
			got, code := impl.ReturnWords(o.machine, q, n)
			expectList(t, "ReturnWords", got, code, o.returnsBy(q, n))
		}
	})
}

func TestReturnWordsExamples(t *testing.T) {
	grigorchuk := "2:0a1a,1a0a,0b1d,0b1e,0a1c"
	examples := []struct {
		machine string
		q, n    int64
		want    []int64
	}{
		{"2:0a1a", 0, 0, []int64{0}}, {"3:0a1a2a", 0, 1, []int64{0, 1, 2}}, {"2:1a0a", 0, 2, []int64{0, 1, 2, 3}}, {"2:0b1b,0a1a", 1, 1, []int64{0, 1}},
		{"2:0a1a,1a0b", 1, 0, []int64{0}}, {"2:0a1a,1a0b", 1, 3, []int64{7}}, {"2:0a1a,1a0b", 1, 5, []int64{31}}, {"3:0a1a2a,1a2a0b", 1, 4, []int64{80}}, {"2:0a1a,1a0a", 1, 0, []int64{0}}, {"2:0a1a,1a0a", 1, 1, nil},
		{grigorchuk, 2, 1, nil}, {grigorchuk, 2, 2, nil}, {grigorchuk, 2, 3, []int64{7}}, {grigorchuk, 3, 3, []int64{7}}, {grigorchuk, 1, 3, nil}, {grigorchuk, 2, 4, nil},
		// Words that lead back to a state that is equal to q without being q, with and without words that lead to q.
		{"2:0a1a,1a0c,1a0b", 1, 1, []int64{1}}, {"2:0a1a,1a0c,1a0b", 2, 2, []int64{3}}, {"2:0a1a,1a0c,1a0c", 1, 3, []int64{7}}, {"2:1b0c,1b0c,1a0b", 0, 1, []int64{0, 1}}, {"2:1a0b,1b0a", 0, 2, []int64{0, 1, 2, 3}},
		{"2:0a1a,1c0d,1b0a,1c0a", 1, 1, nil}, {"2:0a1a,1c0a,0b1a,1c0a,0d1a", 1, 2, []int64{0}}, {"2:0a1a,1c0a,0d1a,1e0a,0b1a", 1, 2, []int64{0}},
		// A state that only reaches a cycle does not come back.
		{"2:0a1a,1a0b,0b1b", 2, 2, nil}, {"2:0a1b,1a0b", 0, 1, []int64{0}}, {"2:0a1b,1a0b", 1, 2, []int64{1, 3}},
	}
	for _, e := range examples {
		got, code := impl.ReturnWords(parse(t, e.machine), e.q, e.n)
		expectList(t, "ReturnWords of "+e.machine, got, code, e.want)
	}
}

func TestBoundaryWords(t *testing.T) {
	eachTiles(t, func(o observer, n int64) {
		got, code := impl.BoundaryWords(o.machine, n)
		expectList(t, "BoundaryWords", got, code, o.boundaryBy(n))
	})
}

// numbersUpTo returns the numbers from 0 on, so many of them.
func numbersUpTo(n int64) []int64 {
	list := []int64{}
	for k := range n {
		list = append(list, k)
	}
	return list
}

func TestBoundaryWordsExamples(t *testing.T) {
	examples := []struct {
		machine string
		n       int64
		want    []int64
	}{
		// Machines of trivial states only.
		{"2:0a1a", 0, nil}, {"2:0a1a", 5, nil}, {"3:0a1a2a", 4, nil}, {"2:0b1c,0a1b,0c1a", 0, nil}, {"2:0b1c,0a1b,0c1a", 3, nil},
		{"2:1a0a", 0, []int64{0}}, {"2:1a0a", 5, numbersUpTo(32)}, {"3:1a0a2a", 4, numbersUpTo(81)}, {"2:0a1a,1a0a", 0, []int64{0}}, {"2:0a1a,1a0a", 1, nil}, {"2:0b1b,0a1a,1b0a", 0, []int64{0}}, {"2:0b1b,0a1a,1b0a", 1, nil},
		{"2:0a1a,1a0b", 0, []int64{0}}, {"2:0a1a,1a0b", 2, []int64{3}}, {"2:0a1a,1a0b", 5, []int64{31}}, {"3:0a1a2a,1a2a0b", 4, []int64{80}}, {"2:0a1a,0a1c,1a0b", 2, []int64{3}},
		{"2:0a1a,1a0a,0b1d,0b1e,0a1c", 2, []int64{2, 3}}, {"3:0a1a2a,1a0a2b,2a1c0a,0d2a1a", 2, []int64{0, 4, 8}}, {"2:0a1a,0a1c,1a0a", 1, []int64{1}}, {"2:0a1a,0a1c,1a0a", 2, nil},
	}
	for _, e := range examples {
		got, code := impl.BoundaryWords(parse(t, e.machine), e.n)
		expectList(t, "BoundaryWords of "+e.machine, got, code, e.want)
	}
}

func TestTiles(t *testing.T) {
	one := map[bool]int{}
	eachTiles(t, func(o observer, n int64) {
		if got, code := impl.TileEdges(o.machine, n); !sameWords(got, o.edgesBy(n)) || code != impl.ErrNone {
			t.Errorf("TileEdges(%v, %d) = %v, %d, not %v", o.machine, n, got, code, o.edgesBy(n))
		}
		parts := o.partsBy(n)
		if got, code := impl.TileParts(o.machine, n); !sameWords(got, parts) || code != impl.ErrNone {
			t.Errorf("TileParts(%v, %d) = %v, %d, not %v", o.machine, n, got, code, parts)
		}
		one[len(parts) == 1]++
		if got, code := impl.IsOneTile(o.machine, n); got != (len(parts) == 1) || code != impl.ErrNone {
			t.Errorf("IsOneTile(%v, %d) = %v, %d", o.machine, n, got, code)
		}
	})
	if one[true] < 100 || one[false] < 100 {
		t.Errorf("tile graphs have one part or not: %v", one)
	}
}

// singles returns so many words, each one as a part.
func singles(n int64) [][]int64 {
	var parts [][]int64
	for k := range n {
		parts = append(parts, []int64{k})
	}
	return parts
}

func TestTilesExamples(t *testing.T) {
	examples := []struct {
		machine string
		n       int64
		edges   [][]int64
		parts   [][]int64
	}{
		{"2:0a1a", 0, nil, singles(1)}, {"2:1a0a", 0, nil, singles(1)}, {"3:0a1a2a,1a2a0b", 0, nil, singles(1)},
		// Edges of one word with itself are left out, and so are those at which the state is active.
		{"2:0a1a", 1, nil, singles(2)}, {"2:0a1a", 5, nil, singles(32)}, {"2:1a0a", 5, nil, singles(32)}, {"3:1a0a2a", 4, nil, singles(81)}, {"2:0a1a,0a1c,1a0b", 1, [][]int64{{0, 1}}, [][]int64{{0, 1}}},
		{"2:0a1a,0a1c,1a0b", 2, [][]int64{{0, 2}, {1, 3}, {2, 3}}, [][]int64{{0, 1, 2, 3}}}, {"3:0a1a2a,1a0a2b", 1, [][]int64{{0, 1}}, [][]int64{{0, 1}, {2}}},
		// 11 is joined to 01, which a state leads to it without being active, but not to 00, to which it leads 11.
		{"2:0a1a,1a0b", 1, [][]int64{{0, 1}}, [][]int64{{0, 1}}}, {"2:0a1a,1a0b", 2, [][]int64{{0, 2}, {1, 2}, {1, 3}}, [][]int64{{0, 1, 2, 3}}},
		{"2:0a1a,1b0a", 2, [][]int64{{0, 2}, {1, 2}, {1, 3}}, [][]int64{{0, 1, 2, 3}}}, {"3:0a1a2a,1a2a0b", 1, [][]int64{{0, 1}, {1, 2}}, [][]int64{{0, 1, 2}}}, {"3:0a1a2a,2b0a1a", 1, [][]int64{{0, 1}, {1, 2}}, [][]int64{{0, 1, 2}}},
		// Edges that several states tell, in both directions, and one of them at a word at which another one is active.
		{"2:0a1a,1a0a", 2, [][]int64{{0, 2}, {1, 3}}, [][]int64{{0, 2}, {1, 3}}}, {"2:0a1a,1a0a,1a0a,1c0a", 1, [][]int64{{0, 1}}, [][]int64{{0, 1}}}, {"2:0a1a,1b0a,1a0c", 1, [][]int64{{0, 1}}, [][]int64{{0, 1}}},
		{"3:0a1a2a,1a2a0b,2b0a1a", 1, [][]int64{{0, 1}, {1, 2}}, [][]int64{{0, 1, 2}}}, {"3:0a1a2a,1a2a0a,2a0a1a", 1, [][]int64{{0, 1}, {0, 2}, {1, 2}}, [][]int64{{0, 1, 2}}},
		{"3:0a1a2a,2a1a0a", 2, [][]int64{{0, 6}, {1, 7}, {2, 8}}, [][]int64{{0, 6}, {1, 7}, {2, 8}, {3}, {4}, {5}}}, {"3:0a1a2a,1a0a2a", 1, [][]int64{{0, 1}}, [][]int64{{0, 1}, {2}}},
		// The first state is trivial though it goes on to another one.
		{"2:0b1b,0a1a,1b0a", 1, [][]int64{{0, 1}}, [][]int64{{0, 1}}}, {"2:0a1a,1a0a,0b1d,0b1e,0a1c", 2, [][]int64{{0, 1}, {0, 2}, {1, 3}}, [][]int64{{0, 1, 2, 3}}},
	}
	for _, e := range examples {
		m := parse(t, e.machine)
		if got, code := impl.TileEdges(m, e.n); !sameWords(got, e.edges) || code != impl.ErrNone {
			t.Errorf("TileEdges(%s, %d) = %v, %d", e.machine, e.n, got, code)
		}
		if got, code := impl.TileParts(m, e.n); !sameWords(got, e.parts) || code != impl.ErrNone {
			t.Errorf("TileParts(%s, %d) = %v, %d", e.machine, e.n, got, code)
		}
		if got, code := impl.IsOneTile(m, e.n); got != (len(e.parts) == 1) || code != impl.ErrNone {
			t.Errorf("IsOneTile(%s, %d) = %v, %d", e.machine, e.n, got, code)
		}
	}
	// The tile graph of the adding machine is a path.
	for _, text := range []string{"2:0a1a,1a0b", "3:0a1a2a,1a2a0b"} {
		m := parse(t, text)
		for n := range deepestOf(m) + 1 {
			size := powerBy(m.Letters, int(n))
			if edges := must(impl.TileEdges(m, n)); int64(len(edges)) != size-1 || !must(impl.IsOneTile(m, n)) {
				t.Errorf("%s has %d edges on the level %d", text, len(edges), n)
			}
		}
	}
}

// TestPartsDivideLevels is a part of promise 9.
func TestPartsDivideLevels(t *testing.T) {
	eachTiles(t, func(o observer, n int64) {
		parts := must(impl.TileParts(o.machine, n))
		var words []int64
		places := map[int64]int{}
		for i, part := range parts {
			if len(part) == 0 || !slices.IsSorted(part) || i > 0 && parts[i-1][0] >= part[0] {
				t.Errorf("TileParts(%v, %d) = %v", o.machine, n, parts)
			}
			words = append(words, part...)
			for _, k := range part {
				places[k] = i
			}
		}
		slices.Sort(words)
		if !slices.Equal(words, numbersUpTo(powerBy(o.machine.Letters, int(n)))) {
			t.Errorf("TileParts(%v, %d) = %v", o.machine, n, parts)
		}
		for _, e := range must(impl.TileEdges(o.machine, n)) {
			if places[e[0]] != places[e[1]] {
				t.Errorf("the edge %v of %v, level %d, joins two parts", e, o.machine, n)
			}
		}
	})
}

// TestEdgesStayInOrbits is promise 17, and has the orbits from chapter 5.
func TestEdgesStayInOrbits(t *testing.T) {
	edges := 0
	eachTiles(t, func(o observer, n int64) {
		places := map[int64]int{}
		for i, orbit := range must(impl.LevelOrbits(o.machine, n)) {
			for _, k := range orbit {
				places[k] = i + 1
			}
		}
		var last []int64
		for _, e := range must(impl.TileEdges(o.machine, n)) {
			edges++
			if len(e) != 2 || e[0] >= e[1] || slices.Compare(last, e) >= 0 {
				t.Errorf("%v, level %d, has the edge %v behind %v", o.machine, n, e, last)
			}
			if places[e[0]] == 0 || places[e[0]] != places[e[1]] {
				t.Errorf("the edge %v of %v, level %d, joins two orbits", e, o.machine, n)
			}
			last = e
		}
		for _, part := range must(impl.TileParts(o.machine, n)) {
			for _, k := range part {
				if places[k] != places[part[0]] {
					t.Errorf("a part of %v, level %d, has words of two orbits: %v", o.machine, n, part)
				}
			}
		}
	})
	if edges < 10000 {
		t.Errorf("there are %d edges", edges)
	}
}

// TestBoundaryWordsAreActive compares two functions with each other: boundary words are those at which ActiveAt
// holds for some state.
func TestBoundaryWordsAreActive(t *testing.T) {
	eachTiles(t, func(o observer, n int64) {
		if n > 3 {
			return
		}
		var want []int64
		for k, w := range wordsOf(o.machine.Letters, int(n)) {
			active := false
			for q := range o.machine.States {
				active = active || must(impl.ActiveAt(o.machine, q, w))
			}
			if active {
				want = append(want, int64(k))
			}
		}
		got, code := impl.BoundaryWords(o.machine, n)
		expectList(t, "BoundaryWords", got, code, want)
	})
}

// TestPartsLeaveNothingBehind finds goroutines that go on, or wait, behind the end of a call.
func TestPartsLeaveNothingBehind(t *testing.T) {
	m := parse(t, "2:0a1a,1a0a")
	before := runtime.NumGoroutine()
	for range 100 {
		must(impl.TileParts(m, 5))
		must(impl.IsOneTile(m, 5))
	}
	for range 1000 {
		if runtime.NumGoroutine() <= before {
			return
		}
		runtime.Gosched()
	}
	t.Errorf("%d goroutines are left of %d", runtime.NumGoroutine(), before)
}
