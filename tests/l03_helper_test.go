package tests

import (
	"slices"
	"strings"
	"testing"

	"loop.example/g01244/impl"
)

// permutationLists returns the permutations of d letters in lexicographic order.
func permutationLists(d int64) [][]int64 {
	var lists [][]int64
	for _, w := range wordsOf(d, int(d)) {
		var list []int64
		for _, b := range []byte(w) {
			if !slices.Contains(list, int64(b-'0')) {
				list = append(list, int64(b-'0'))
			}
		}
		if int64(len(list)) == d {
			lists = append(lists, list)
		}
	}
	return lists
}

// treeOf returns, for each word of a portrait, the permutation at it.
func treeOf(d int64, n int, list []int64) map[string][]int64 {
	tree := map[string][]int64{}
	for i, v := range wordsUpTo(d, n-1) {
		tree[v] = permutationLists(d)[list[i]]
	}
	return tree
}

// actBy is the document's definition of what a portrait does with a word.
func actBy(tree map[string][]int64, w string) string {
	var image strings.Builder
	for i := range len(w) {
		image.WriteByte('0' + byte(tree[w[:i]][w[i]-'0']))
	}
	return image.String()
}

// shape is a number of letters, with a depth.
type shape struct {
	d int64
	n int
}

func allShapes() []shape {
	var shapes []shape
	for d := int64(2); d <= 3; d++ {
		for n := 1; n <= impl.MaxDepth; n++ {
			shapes = append(shapes, shape{d, n})
		}
	}
	return shapes
}

// size is the length of a portrait, and kinds the number of the permutations in it.
func (s shape) size() int {
	return len(wordsUpTo(s.d, s.n-1))
}

func (s shape) kinds() int64 {
	return int64(len(permutationLists(s.d)))
}

// random returns a portrait.
func (s shape) random(d *dice) []int64 {
	list := make([]int64, s.size())
	for i := range list {
		list[i] = d.roll(s.kinds())
	}
	return list
}

// all returns all portraits of a shape, of which there must be few.
func (s shape) all() [][]int64 {
	lists := [][]int64{{}}
	for range s.size() {
		var longer [][]int64
		for _, list := range lists {
			for k := range s.kinds() {
				longer = append(longer, append(slices.Clone(list), k))
			}
		}
		lists = longer
	}
	return lists
}

// some returns all portraits of a shape if there are few of them, and otherwise the ones with a
// permutation everywhere, with one permutation that is not 0, and random ones.
func (s shape) some() [][]int64 {
	if s.d == 2 && s.n <= 3 || s.n == 1 {
		return s.all()
	}
	var lists [][]int64
	for k := range s.kinds() {
		lists = append(lists, slices.Repeat([]int64{k}, s.size()))
		for i := range s.size() {
			if k > 0 && i%3 == 0 {
				list := make([]int64, s.size())
				list[i] = k
				lists = append(lists, list)
			}
		}
	}
	d := dice(s.d*10 + int64(s.n))
	for range 30 {
		lists = append(lists, s.random(&d))
	}
	return lists
}

// bad returns lists that are no portraits of a shape, each by one fault.
func (s shape) bad() [][]int64 {
	lists := [][]int64{make([]int64, s.size()-1), make([]int64, s.size()+1), make([]int64, 5000)}
	for _, other := range allShapes() {
		if other.size() != s.size() {
			lists = append(lists, make([]int64, other.size()))
		}
	}
	for i := range s.size() {
		for _, k := range append([]int64{-1, s.kinds(), s.kinds() + 1, 256, 255, -256}, farNumbers...) {
			list := make([]int64, s.size())
			list[i] = k
			lists = append(lists, list)
		}
	}
	return lists
}

// permutationBy lists the numbers of the images of the words of the level n.
func permutationBy(s shape, list []int64) []int64 {
	tree, words := treeOf(s.d, s.n, list), wordsOf(s.d, s.n)
	numbers := map[string]int64{}
	for k, w := range words {
		numbers[w] = int64(k)
	}
	var images []int64
	for _, w := range words {
		images = append(images, numbers[actBy(tree, w)])
	}
	return images
}

// expectList checks a list and a code.
func expectList(t *testing.T, what string, got []int64, code int64, want []int64) {
	t.Helper()
	if !slices.Equal(got, want) || code != impl.ErrNone {
		t.Errorf("%s = %v, %d, not %v", what, got, code, want)
	}
}
