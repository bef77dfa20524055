package tests

import (
	"slices"
	"testing"

	"loop.example/g01244/impl"
)

// ranker has the document's definitions of chapter 6 for one machine, written out plainly.
type ranker struct {
	tower
}

func rankerOf(m impl.Machine) ranker {
	return ranker{towerOf(m)}
}

// cycleBy returns the letters of the cycle of x.
func (r ranker) cycleBy(g []int64, x string) []string {
	letters := []string{x}
	for y := imageBy(r.machine, g, x); y != x; y = imageBy(r.machine, g, y) {
		letters = append(letters, y)
	}
	return letters
}

// returnBy returns the return of x, the number of the letters of its cycle, and a code.
func (r ranker) returnBy(g []int64, x string) ([]int64, int64, int64) {
	k := len(r.cycleBy(g, x))
	power := slices.Repeat(g, k)
	if len(power) > impl.MaxGroup {
		return nil, 0, impl.ErrLimit
	}
	return r.normalBy(sectionBy(r.machine, power, x)), int64(k), impl.ErrNone
}

// station is a word of a path, with the letter and the number of letters of the cycle by which the
// search has come to it.
type station struct {
	word   []int64
	letter string
	length int64
}

// verdict is what a search ends with. Of an order 0 it has the word with which the proof begins, and
// its place on the path; of each end, the greatest number of words that a path has had.
type verdict struct {
	order   int64
	code    int64
	proof   impl.Proof
	begin   []int64
	place   int
	deepest int
}

// orderBy searches the order of g.
func (r ranker) orderBy(g []int64) verdict {
	return r.searchBy([]station{{word: r.normalBy(g), length: 1}})
}

// searchBy searches the order of the word at the end of a path.
func (r ranker) searchBy(path []station) verdict {
	h := path[len(path)-1].word
	result := verdict{order: 1, deepest: len(path)}
	if len(h) == 0 {
		return result
	}
	for _, x := range wordsOf(r.machine.Letters, 1) {
		if slices.Min(r.cycleBy(h, x)) != x {
			continue
		}
		back, k, code := r.returnBy(h, x)
		if code != impl.ErrNone {
			return verdict{code: code, deepest: result.deepest}
		}
		path := append(slices.Clone(path), station{back, x, k})
		place := slices.IndexFunc(path, func(s station) bool { return slices.Equal(s.word, back) })
		if place == len(path)-1 {
			if len(path) > impl.MaxDeep {
				return verdict{code: impl.ErrLimit, deepest: result.deepest}
			}
			next := r.searchBy(path)
			next.deepest = max(next.deepest, result.deepest)
			if next.order == 0 {
				return next
			}
			result.order, result.deepest = multipleBy(result.order, k*next.order), next.deepest
			continue
		}
		proof := impl.Proof{Factor: 1}
		for _, s := range path[place+1:] {
			proof.Word += s.letter
			proof.Factor *= s.length
		}
		if proof.Factor > 1 {
			return verdict{proof: proof, begin: back, place: place, deepest: result.deepest}
		}
	}
	return result
}

// multipleBy returns the least common multiple of a and b.
func multipleBy(a, b int64) int64 {
	multiple := a
	for multiple%b != 0 {
		multiple += a
	}
	return multiple
}

// torsionBy looks at all group words of at most so many numbers. It returns those that it has looked at
// before the end.
func (r ranker) torsionBy(numbers int64) (bool, int64, [][]int64) {
	list := [][]int64{{}}
	begin := 0
	for range numbers {
		end := len(list)
		for _, g := range list[begin:end] {
			for k := -r.machine.States; k <= r.machine.States; k++ {
				if k != 0 {
					list = append(list, append(slices.Clone(g), k))
				}
			}
		}
		begin = end
	}
	for i, g := range list {
		if end := r.orderBy(g); end.order == 0 {
			return false, end.code, list[:i+1]
		}
	}
	return true, impl.ErrNone, list
}

// imagesBy lists the images of the words of a level.
func imagesBy(m impl.Machine, g []int64, n int64) map[string]string {
	images := map[string]string{}
	for _, w := range wordsOf(m.Letters, int(n)) {
		images[w] = imageBy(m, g, w)
	}
	return images
}

// levelOrderBy applies the images of the words of a level until all words are back.
func levelOrderBy(images map[string]string) int64 {
	places := map[string]string{}
	for w := range images {
		places[w] = w
	}
	for order := int64(1); ; order++ {
		back := true
		for w, v := range places {
			places[w] = images[v]
			back = back && images[v] == w
		}
		if back {
			return order
		}
	}
}

// orderMachines returns machines with words of many orders.
func orderMachines(t *testing.T) []impl.Machine {
	list := someMachines(t)
	d := dice(61)
	for range 80 {
		list = append(list, lightMachine(&d), randomMachine(&d, 2+d.roll(2), 1+d.roll(4), 6))
	}
	for states := int64(1); states <= 5; states++ {
		list = append(list, shiftMachine(states))
	}
	return list
}

// orderWords returns group words of m, most of which are short.
func orderWords(m impl.Machine) [][]int64 {
	d := dice(m.States)
	list := [][]int64{nil}
	for k := int64(1); k <= m.States; k++ {
		list = append(list, []int64{k}, []int64{-k})
	}
	for n := int64(2); n <= impl.MaxGroup; n += 1 + n/4 {
		list = append(list, randomGroup(&d, m, n), randomGroup(&d, m, n))
	}
	return append(list, randomGroup(&d, m, impl.MaxGroup))
}

// ladder returns a machine of rungs, all of which put out the same letters. At the letter 0 each one
// goes on to the next one, and the last one to the state behind the rungs; at other letters all of them
// go on to this one, which is trivial. The last state exchanges 0 and 1 as first letters. A change makes
// rungs different from each other.
func ladder(letters int64, rungs int64, out [3]byte, change func(m *impl.Machine)) impl.Machine {
	m := withTrivial(impl.Machine{Letters: letters}, rungs+2)
	for q := range rungs + 2 {
		for x := range letters {
			m.Next[q][x] = byte(rungs)
		}
		if q < rungs {
			m.Out[q], m.Next[q][0] = out, byte(q+1)
		}
	}
	m.Out[rungs+1][0], m.Out[rungs+1][1] = 1, 0
	change(&m)
	return m
}

// Outputs of rungs.
var (
	stayTwo   = [3]byte{0, 1}
	swapTwo   = [3]byte{1, 0}
	stayThree = [3]byte{0, 1, 2}
	swapThree = [3]byte{1, 0, 2}
	turnThree = [3]byte{1, 2, 0}
)
