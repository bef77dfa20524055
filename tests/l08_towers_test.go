package tests

import (
	"fmt"
	"strings"
	"testing"

	"loop.example/g01244/impl"
)

// towerWords returns all words that tell towers.
func towerWords() []string {
	return wordsUpTo(3, impl.MaxLevel)[1:]
}

func TestMoveTower(t *testing.T) {
	for _, w := range towerWords() {
		for _, m := range turns {
			want := moveBy(w, m)
			if got, code := impl.MoveTower(w, m.x, m.y); got != want || code != impl.ErrNone {
				t.Errorf("MoveTower(%s, %d, %d) = %s, %d, not %s", w, m.x, m.y, got, code, want)
			}
		}
	}
}

func TestMoveTowerExamples(t *testing.T) {
	examples := []struct {
		w    string
		x, y int64
		want string
	}{
		{"12", 0, 2, "10"}, {"0", 0, 1, "1"}, {"1", 0, 1, "0"}, {"2", 0, 1, "2"}, {"0", 1, 2, "0"}, {"1", 0, 2, "1"}, {"00", 0, 1, "10"}, {"000", 0, 2, "200"},
		{"100", 0, 2, "120"}, {"120", 1, 2, "220"}, {"2210", 0, 1, "2200"}, {"22222", 0, 1, "22222"}, {"00000", 1, 2, "00000"}, {"11111", 0, 2, "11111"},
		{"22220", 0, 1, "22221"}, {"00001", 1, 2, "00002"}, {"11112", 0, 2, "11110"}, {"22222", 1, 2, "12222"}, {"01201", 1, 2, "02201"},
	}
	for _, e := range examples {
		if got, code := impl.MoveTower(e.w, e.x, e.y); got != e.want || code != impl.ErrNone {
			t.Errorf("MoveTower(%s, %d, %d) = %s, %d, not %s", e.w, e.x, e.y, got, code, e.want)
		}
	}
}

// TestMovesUndoThemselves is the second half of promise 8. Moves are states of hanoi.
func TestMovesUndoThemselves(t *testing.T) {
	hanoi := must(impl.KnownMachine("hanoi"))
	still := 0
	for _, w := range towerWords() {
		for i, m := range turns {
			moved := must(impl.MoveTower(w, m.x, m.y))
			if back := must(impl.MoveTower(moved, m.x, m.y)); back != w {
				t.Errorf("the pegs %d and %d lead %s to %s, and this to %s", m.x, m.y, w, moved, back)
			}
			if image := must(impl.ActOnWord(hanoi, int64(i)+1, w)); image != moved {
				t.Errorf("the state %d leads %s to %s, and MoveTower to %s", i+1, w, image, moved)
			}
			if !isMove(w, moved, m) {
				t.Errorf("no disc may go from %s to %s by the pegs %d and %d", w, moved, m.x, m.y)
			}
			if moved == w {
				still++
			}
		}
	}
	// Nothing changes where all discs are at the third peg.
	if still != 3*impl.MaxLevel {
		t.Errorf("%d moves change nothing", still)
	}
}

// isMove reports whether the smallest disc of two pegs, and no other one, goes to the other one of both,
// as the rules of the game have it.
func isMove(w string, moved string, m turn) bool {
	tops := map[byte]int{}
	for i := len(w) - 1; i >= 0; i-- {
		tops[w[i]] = i
	}
	x, y := byte('0'+m.x), byte('0'+m.y)
	i, onX := tops[x]
	j, onY := tops[y]
	switch {
	case !onX && !onY:
		return moved == w
	case !onX || onY && j < i:
		return moved == w[:j]+string(rune(x))+w[j+1:]
	}
	return moved == w[:i]+string(rune(y))+w[i+1:]
}

func TestTowerDistancesAndPaths(t *testing.T) {
	all := map[string]map[string]trail{}
	several := 0
	for _, pair := range towerPairs() {
		w, v := pair[0], pair[1]
		if all[w] == nil {
			all[w] = trailsBy(w)
		}
		want, ok := all[w][v]
		if !ok {
			t.Errorf("no moves lead from %s to %s", w, v)
		}
		if got, code := impl.TowerDistance(w, v); got != want.distance || code != impl.ErrNone {
			t.Errorf("TowerDistance(%s, %s) = %d, %d, not %d", w, v, got, code, want.distance)
		}
		if got, code := impl.TowerPath(w, v); got != want.first || code != impl.ErrNone {
			t.Errorf("TowerPath(%s, %s) = %s, %d, not %s", w, v, got, code, want.first)
		}
		if want.texts > 1 {
			several++
		}
	}
	if several < 80 {
		t.Errorf("only %d pairs of words with several paths", several)
	}
}

func TestTowerExamples(t *testing.T) {
	examples := []struct {
		w, v string
		path string
	}{
		{"0", "0", ""}, {"0", "1", "b"}, {"1", "0", "b"}, {"0", "2", "c"}, {"2", "0", "c"}, {"1", "2", "d"}, {"2", "1", "d"},
		{"00", "22", "bcd"}, {"22", "00", "dcb"}, {"00", "11", "cbd"}, {"11", "22", "bdc"}, {"00", "00", ""}, {"012", "012", ""},
		{"000", "222", "cbdcbdc"}, {"22222", "22222", ""}, {"00000", "10000", "b"},
		// There are two paths of the least length for each of these.
		{"02", "20", "bcd"}, {"10", "01", "cbd"}, {"21", "12", "bdc"}, {"001", "200", "bcdbdcd"}, {"102", "120", "bdbcdbd"}, {"201", "210", "cdcbdcd"},
	}
	for _, e := range examples {
		if path, code := impl.TowerPath(e.w, e.v); path != e.path || code != impl.ErrNone {
			t.Errorf("TowerPath(%s, %s) = %s, %d, not %s", e.w, e.v, path, code, e.path)
		}
		if distance, code := impl.TowerDistance(e.w, e.v); distance != int64(len(e.path)) || code != impl.ErrNone {
			t.Errorf("TowerDistance(%s, %s) = %d, %d, not %d", e.w, e.v, distance, code, len(e.path))
		}
	}
}

// TestWholeTowers moves all discs from one peg to another one, which takes 2^n - 1 moves; nothing is further.
func TestWholeTowers(t *testing.T) {
	for n := 1; n <= impl.MaxLevel; n++ {
		for x := range 3 {
			for y := range 3 {
				w, v := strings.Repeat(string(rune('0'+x)), n), strings.Repeat(string(rune('0'+y)), n)
				want := powerBy(2, n) - 1
				if x == y {
					want = 0
				}
				if got := must(impl.TowerDistance(w, v)); got != want {
					t.Errorf("TowerDistance(%s, %s) = %d, not %d", w, v, got, want)
				}
			}
		}
	}
}

// TestPathsLeadFromWordToWord goes along paths by the moves, and by the states of hanoi.
func TestPathsLeadFromWordToWord(t *testing.T) {
	hanoi := must(impl.KnownMachine("hanoi"))
	for _, pair := range towerPairs() {
		w, v := pair[0], pair[1]
		path := must(impl.TowerPath(w, v))
		if image := must(impl.ImageOf(hanoi, groupOf(hanoi, path), w)); image != v {
			t.Errorf("TowerPath(%s, %s) = %s leads to %s", w, v, path, image)
		}
		at := w
		for _, letter := range path {
			m := turns[letter-'b']
			at = must(impl.MoveTower(at, m.x, m.y))
		}
		if at != v {
			t.Errorf("the moves of TowerPath(%s, %s) = %s lead to %s", w, v, path, at)
		}
		if there, back := must(impl.TowerDistance(w, v)), must(impl.TowerDistance(v, w)); there != back || there != int64(len(path)) {
			t.Errorf("TowerDistance(%s, %s) = %d, the other way %d, along %s", w, v, there, back, path)
		}
	}
}

// moveOutcomes calls the function of a word and two pegs.
func moveOutcomes(w string, x int64, y int64) map[string]outcome {
	moved, code := impl.MoveTower(w, x, y)
	return map[string]outcome{"MoveTower": {code, moved == ""}}
}

// betweenOutcomes calls the functions of two words.
func betweenOutcomes(w string, v string) map[string]outcome {
	path, code := impl.TowerPath(w, v)
	return map[string]outcome{
		"TowerDistance": numberOutcome(impl.TowerDistance(w, v)),
		"TowerPath":     {code, path == ""},
	}
}

// longTowers are words, but have no letter, or more than MaxLevel.
var longTowers = []string{"", "000000", "012012", "222222", strings.Repeat("0", 7), strings.Repeat("21", 20), strings.Repeat("1", impl.MaxWord)}

func TestTowerErrorsOfWords(t *testing.T) {
	for _, bad := range badWords(3) {
		what := fmt.Sprintf("%.45q", bad)
		for _, x := range []int64{-1, 0, 1, 3} {
			allAre(t, what, moveOutcomes(bad, x, 1), groupInvalid)
			allAre(t, what, moveOutcomes(bad, 0, x), groupInvalid)
		}
		for _, w := range append([]string{"0", "12", "00000", bad}, longTowers...) {
			allAre(t, what, betweenOutcomes(bad, w), groupInvalid)
			allAre(t, what, betweenOutcomes(w, bad), groupInvalid)
		}
	}
}

func TestTowerErrorsOfLengths(t *testing.T) {
	for _, long := range longTowers {
		for _, m := range turns {
			allAre(t, long, moveOutcomes(long, m.x, m.y), groupRange)
		}
		for _, w := range append([]string{"0", "00000", long}, longTowers...) {
			allAre(t, long, betweenOutcomes(long, w), groupRange)
			allAre(t, long, betweenOutcomes(w, long), groupRange)
		}
	}
	for n := 1; n <= impl.MaxLevel; n++ {
		for k := 1; k <= impl.MaxLevel; k++ {
			want := outcome{impl.ErrNone, false}
			if n != k {
				want = groupRange
			}
			w, v := strings.Repeat("0", n), strings.Repeat("1", k)
			allAre(t, w+", "+v, betweenOutcomes(w, v), want)
		}
	}
}

func TestTowerErrorsOfPegs(t *testing.T) {
	pegs := append([]int64{-2, -1, 0, 1, 2, 3, 4}, farNumbers...)
	for _, w := range append([]string{"0", "1", "2", "012", "00000", "22222"}, longTowers...) {
		for _, x := range pegs {
			for _, y := range pegs {
				if x < 0 || x >= y || y > 2 || len(w) < 1 || len(w) > impl.MaxLevel {
					allAre(t, fmt.Sprintf("%s, %d, %d", w, x, y), moveOutcomes(w, x, y), groupRange)
				} else {
					allAre(t, fmt.Sprintf("%s, %d, %d", w, x, y), moveOutcomes(w, x, y), outcome{impl.ErrNone, false})
				}
			}
		}
	}
}
