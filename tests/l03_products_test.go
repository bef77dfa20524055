package tests

import (
	"fmt"
	"slices"
	"testing"

	"loop.example/g01244/impl"
)

// pairsOf returns pairs of portraits of a shape: all of them, if there are few.
func pairsOf(s shape) [][2][]int64 {
	var pairs [][2][]int64
	if s.n == 1 || s == (shape{2, 2}) {
		for _, a := range s.all() {
			for _, b := range s.all() {
				pairs = append(pairs, [2][]int64{a, b})
			}
		}
		return pairs
	}
	lists := s.some()
	for i, a := range lists {
		pairs = append(pairs, [2][]int64{a, lists[(i*7+3)%len(lists)]}, [2][]int64{lists[(i*5+1)%len(lists)], a}, [2][]int64{a, a})
	}
	return pairs
}

func TestMultiplyPortraits(t *testing.T) {
	for _, s := range allShapes() {
		for _, pair := range pairsOf(s) {
			product, code := impl.MultiplyPortraits(s.d, int64(s.n), pair[0], pair[1])
			if code != impl.ErrNone || !impl.IsPortrait(s.d, int64(s.n), product) {
				t.Fatalf("MultiplyPortraits(%v, %v) = %v, %d", s, pair, product, code)
			}
			first, second, both := treeOf(s.d, s.n, pair[0]), treeOf(s.d, s.n, pair[1]), treeOf(s.d, s.n, product)
			for _, w := range wordsOf(s.d, s.n) {
				if actBy(both, w) != actBy(second, actBy(first, w)) {
					t.Errorf("MultiplyPortraits(%v, %v) = %v: the image of %q", s, pair, product, w)
				}
			}
		}
	}
}

func TestMultiplyPortraitsExamples(t *testing.T) {
	examples := []struct {
		d, n          int64
		a, b, product []int64
	}{
		{2, 1, []int64{1}, []int64{1}, []int64{0}}, {2, 2, []int64{1, 0, 1}, []int64{1, 0, 1}, []int64{0, 1, 1}}, {2, 2, []int64{1, 0, 1}, []int64{0, 1, 0}, []int64{1, 0, 0}},
		{2, 2, []int64{0, 1, 0}, []int64{1, 0, 1}, []int64{1, 1, 1}}, {3, 1, []int64{1}, []int64{2}, []int64{3}}, {3, 1, []int64{2}, []int64{1}, []int64{4}},
		{3, 2, []int64{3, 0, 0, 3}, []int64{3, 0, 0, 3}, []int64{4, 0, 3, 3}}, {3, 2, []int64{3, 1, 1, 1}, []int64{0, 2, 1, 0}, []int64{3, 0, 1, 3}},
	}
	for _, e := range examples {
		got, code := impl.MultiplyPortraits(e.d, e.n, e.a, e.b)
		expectList(t, fmt.Sprintf("MultiplyPortraits(%d, %d, %v, %v)", e.d, e.n, e.a, e.b), got, code, e.product)
	}
}

// TestProductsOfPortraitsAreAssociative is a part of promise 3.
func TestProductsOfPortraitsAreAssociative(t *testing.T) {
	for _, s := range allShapes() {
		times := func(a, b []int64) []int64 {
			return must(impl.MultiplyPortraits(s.d, int64(s.n), a, b))
		}
		neutral := make([]int64, s.size())
		d := dice(23)
		for _, pair := range pairsOf(s) {
			a, b, c := pair[0], pair[1], s.random(&d)
			left, right := times(times(a, b), c), times(a, times(b, c))
			if !slices.Equal(left, right) {
				t.Errorf("%v: %v, %v, %v: %v and %v", s, a, b, c, left, right)
			}
			if !slices.Equal(times(a, neutral), a) || !slices.Equal(times(neutral, a), a) {
				t.Errorf("%v: %v is changed by the portrait that leaves all words", s, a)
			}
		}
	}
}

func TestInvertPortrait(t *testing.T) {
	for _, s := range allShapes() {
		for _, list := range s.some() {
			inverse, code := impl.InvertPortrait(s.d, int64(s.n), list)
			if code != impl.ErrNone || !impl.IsPortrait(s.d, int64(s.n), inverse) {
				t.Fatalf("InvertPortrait(%v, %v) = %v, %d", s, list, inverse, code)
			}
			there, back := treeOf(s.d, s.n, list), treeOf(s.d, s.n, inverse)
			for _, w := range wordsOf(s.d, s.n) {
				if actBy(back, actBy(there, w)) != w {
					t.Errorf("InvertPortrait(%v, %v) = %v: the image of %q", s, list, inverse, w)
				}
			}
			for _, product := range [][]int64{must(impl.MultiplyPortraits(s.d, int64(s.n), list, inverse)), must(impl.MultiplyPortraits(s.d, int64(s.n), inverse, list))} {
				if !slices.Equal(product, make([]int64, s.size())) {
					t.Errorf("%v: the product of %v and its inverse is %v", s, list, product)
				}
			}
			again, code := impl.InvertPortrait(s.d, int64(s.n), inverse)
			expectList(t, "the inverse of the inverse", again, code, list)
		}
	}
}

func TestInvertPortraitExamples(t *testing.T) {
	examples := []struct {
		d, n          int64
		list, inverse []int64
	}{
		{2, 1, []int64{1}, []int64{1}}, {2, 2, []int64{1, 0, 1}, []int64{1, 1, 0}}, {2, 2, []int64{0, 0, 1}, []int64{0, 0, 1}},
		{3, 1, []int64{3}, []int64{4}}, {3, 1, []int64{5}, []int64{5}}, {3, 2, []int64{3, 1, 3, 5}, []int64{4, 5, 1, 4}},
	}
	for _, e := range examples {
		got, code := impl.InvertPortrait(e.d, e.n, e.list)
		expectList(t, fmt.Sprintf("InvertPortrait(%d, %d, %v)", e.d, e.n, e.list), got, code, e.inverse)
	}
}

// isOddList finds out by exchanging letters until each is in its place.
func isOddList(p []int64) bool {
	p = slices.Clone(p)
	odd := false
	for x := range p {
		for p[x] != int64(x) {
			y := p[x]
			p[x], p[y] = p[y], p[x]
			odd = !odd
		}
	}
	return odd
}

func TestSignsOf(t *testing.T) {
	for _, s := range allShapes() {
		for _, list := range s.some() {
			want := make([]int64, s.n)
			for v, p := range treeOf(s.d, s.n, list) {
				if isOddList(p) {
					want[len(v)] ^= 1
				}
			}
			got, code := impl.SignsOf(s.d, int64(s.n), list)
			expectList(t, fmt.Sprintf("SignsOf(%v, %v)", s, list), got, code, want)
		}
	}
}

func TestSignsOfExamples(t *testing.T) {
	for k, want := range []int64{0, 1, 1, 0, 0, 1} {
		got, code := impl.SignsOf(3, 1, []int64{int64(k)})
		expectList(t, fmt.Sprintf("SignsOf(3, 1, {%d})", k), got, code, []int64{want})
	}
	examples := []struct {
		d, n        int64
		list, signs []int64
	}{
		{2, 1, []int64{0}, []int64{0}}, {2, 1, []int64{1}, []int64{1}}, {2, 2, []int64{1, 1, 1}, []int64{1, 0}}, {2, 3, []int64{0, 0, 1, 1, 1, 1, 0}, []int64{0, 1, 1}},
		{3, 2, []int64{3, 1, 2, 5}, []int64{0, 1}}, {3, 2, []int64{2, 1, 4, 5}, []int64{1, 0}},
	}
	for _, e := range examples {
		got, code := impl.SignsOf(e.d, e.n, e.list)
		expectList(t, fmt.Sprintf("SignsOf(%d, %d, %v)", e.d, e.n, e.list), got, code, e.signs)
	}
}

func TestSignsAddUp(t *testing.T) {
	for _, s := range allShapes() {
		for _, pair := range pairsOf(s) {
			product := must(impl.MultiplyPortraits(s.d, int64(s.n), pair[0], pair[1]))
			want := must(impl.SignsOf(s.d, int64(s.n), pair[0]))
			for i, sign := range must(impl.SignsOf(s.d, int64(s.n), pair[1])) {
				want[i] ^= sign
			}
			got, code := impl.SignsOf(s.d, int64(s.n), product)
			expectList(t, fmt.Sprintf("SignsOf the product of %v", pair), got, code, want)
		}
	}
}

// orderBy applies a permutation until all words are in their places, and tells how many words the
// first one has met by then.
func orderBy(images []int64) (order int64, met int) {
	words := make([]int64, len(images))
	for k := range words {
		words[k] = int64(k)
	}
	places := map[int64]bool{}
	for {
		order++
		for k := range words {
			words[k] = images[words[k]]
		}
		places[words[0]] = true
		if slices.IsSorted(words) {
			return order, len(places)
		}
	}
}

func TestOrdersAndCycles(t *testing.T) {
	for _, s := range allShapes() {
		lists := s.some()
		if s == (shape{3, 2}) {
			lists = s.all()
		}
		for _, list := range lists {
			images := permutationBy(s, list)
			want, met := orderBy(images)
			order, code := impl.OrderOfPortrait(s.d, int64(s.n), list)
			if order != want || code != impl.ErrNone {
				t.Errorf("OrderOfPortrait(%v, %v) = %d, %d, not %d", s, list, order, code, want)
			}
			if s.d == 2 && order&(order-1) != 0 {
				t.Errorf("OrderOfPortrait(%v, %v) = %d is no power of 2", s, list, order)
			}
			one, code := impl.IsOneCycle(s.d, int64(s.n), list)
			if one != (met == len(images)) || code != impl.ErrNone {
				t.Errorf("IsOneCycle(%v, %v) = %v, %d", s, list, one, code)
			}
		}
	}
}

func TestOrderExamples(t *testing.T) {
	adder, adder3 := parse(t, "2:0a1a,1a0b"), parse(t, "3:0a1a2a,1a2a0b")
	for n, want := range map[int64][2]int64{1: {2, 3}, 2: {4, 9}, 3: {8, 27}, 4: {16, 81}} {
		for i, m := range []impl.Machine{adder, adder3} {
			for q := range m.States {
				list := must(impl.PortraitOf(m, q, n))
				order, one := must(impl.OrderOfPortrait(m.Letters, n, list)), must(impl.IsOneCycle(m.Letters, n, list))
				if q == 0 && (order != 1 || one) || q == 1 && (order != want[i] || !one) {
					t.Errorf("state %d on the level %d: %d, %v", q, n, order, one)
				}
			}
		}
	}
	examples := []struct {
		list  []int64
		order int64
	}{
		{[]int64{0, 1, 3, 0}, 6}, {[]int64{3, 1, 0, 0}, 6}, {[]int64{1, 0, 3, 1}, 4}, {[]int64{1, 4, 0, 3}, 6}, {[]int64{3, 3, 3, 4}, 9}, {[]int64{2, 1, 3, 1}, 4}, {[]int64{1, 3, 1, 3}, 12},
	}
	for _, e := range examples {
		if got, code := impl.OrderOfPortrait(3, 2, e.list); got != e.order || code != impl.ErrNone {
			t.Errorf("OrderOfPortrait(3, 2, %v) = %d, %d, not %d", e.list, got, code, e.order)
		}
	}
}
