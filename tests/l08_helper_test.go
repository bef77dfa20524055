package tests

import (
	"slices"
	"strings"

	"loop.example/g01244/impl"
)

// record is what the document tells of a known machine.
type record struct {
	name      string
	text      string
	relations []string
}

// records has the known machines in the order of the document.
var records = []record{
	{"adding", "2:0a1a,1a0b", nil},
	{"adding3", "3:0a1a2a,1a2a0b", nil},
	{"aleshin", "2:1c0b,1b0c,0a1a", nil},
	{"basilica", "2:0a1a,0a1c,1a0b", nil},
	{"grigorchuk", "2:0a1a,1a0a,0b1d,0b1e,0a1c", []string{"bb", "cc", "dd", "ee", "cde", "bebebebe"}},
	{"gupta", "3:0a1a2a,1a2a0a,0b1c2d,2a0a1a", []string{"bbb", "ccc", "bd"}},
	{"hanoi", "3:0a1a2a,1a0a2b,2a1c0a,0d2a1a", []string{"bb", "cc", "dd"}},
	{"lamplighter", "2:0a1b,1a0b", []string{"AbAb", "BaABaaAbAAba"}},
}

// unknownNames returns names that no known machine has: among them are all known names with one letter
// in the other case, with one letter less, and with one byte more.
func unknownNames() []string {
	list := []string{
		"", " ", "\x00", "a", "add", "adding2", "adding4", "adding32", "adding33", "Adding3", "known", "grigorchuk2", "gupta-sidki", "gupta3", "hanoi3", "hanoi towers",
		"bellaterra", "2:0a1a,1a0b", "adding,adding3", "adding adding3", "\xff", "ad\u0130ng", "\u217ding", strings.Repeat("adding", 100000),
	}
	known := map[string]bool{}
	for _, r := range records {
		known[r.name] = true
	}
	for _, r := range records {
		list = append(list, strings.ToUpper(r.name), strings.ToUpper(r.name[:1])+r.name[1:], r.name+r.name)
		for i := range len(r.name) {
			other := []byte(r.name)
			other[i] ^= 0x20
			list = append(list, string(other), r.name[:i]+r.name[i+1:], r.name[:i]+" "+r.name[i:])
		}
		for _, more := range []string{" ", "\n", "\x00", "s", "2"} {
			list = append(list, more+r.name, r.name+more)
		}
	}
	return slices.DeleteFunc(list, func(name string) bool { return known[name] })
}

// digitsBy is the document's definition of the number of a word.
func digitsBy(d int64, w string) int64 {
	number, power := int64(0), int64(1)
	for i := range len(w) {
		number += int64(w[i]-'0') * power
		power *= d
	}
	return number
}

// powerBy returns d to the power n.
func powerBy(d int64, n int) int64 {
	power := int64(1)
	for range n {
		power *= d
	}
	return power
}

// turn is a move of two pegs, with its letter in the texts of paths.
type turn struct {
	x, y   int64
	letter string
}

var turns = []turn{{0, 1, "b"}, {0, 2, "c"}, {1, 2, "d"}}

// moveBy is the document's definition of a move.
func moveBy(w string, m turn) string {
	x, y := string(rune('0'+m.x)), string(rune('0'+m.y))
	i := strings.IndexAny(w, x+y)
	if i < 0 {
		return w
	}
	if w[i:i+1] == x {
		x = y
	}
	return w[:i] + x + w[i+1:]
}

// trail is what is told of the texts of moves that lead from one word to another one in as few moves as
// can be: the number of moves, the number of texts, and the first one.
type trail struct {
	distance int64
	texts    int
	first    string
}

// trailsBy returns the trails from w to all words, which are found move by move.
func trailsBy(w string) map[string]trail {
	trails := map[string]trail{w: {texts: 1}}
	for layer := []string{w}; len(layer) > 0; {
		next := map[string]trail{}
		for _, from := range layer {
			for _, m := range turns {
				to := moveBy(from, m)
				if _, met := trails[to]; met {
					continue
				}
				text := trails[from].first + m.letter
				old, met := next[to]
				if !met || text < old.first {
					old.first = text
				}
				next[to] = trail{trails[from].distance + 1, old.texts + trails[from].texts, old.first}
			}
		}
		layer = nil
		for to, t := range next {
			trails[to] = t
			layer = append(layer, to)
		}
	}
	return trails
}

// towerPairs returns pairs of words of equally many letters: all of up to 3 letters, and some longer ones,
// the towers on single pegs among them.
func towerPairs() [][2]string {
	d := dice(83)
	var list [][2]string
	for n := 1; n <= impl.MaxLevel; n++ {
		words := wordsOf(3, n)
		for i, w := range words {
			for j, v := range words {
				single := i%((len(words)-1)/2) == 0 && j%((len(words)-1)/2) == 0
				if n <= 3 || single || i == j || d.roll(40) == 0 {
					list = append(list, [2]string{w, v})
				}
			}
		}
	}
	return list
}
