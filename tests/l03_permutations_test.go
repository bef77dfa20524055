package tests

import (
	"fmt"
	"slices"
	"testing"

	"loop.example/g01244/impl"
)

func TestPortraitConstants(t *testing.T) {
	if impl.MaxDepth != 4 {
		t.Errorf("MaxDepth is %d", impl.MaxDepth)
	}
}

func TestPermutationNumber(t *testing.T) {
	examples := [][]int64{{0, 1}, {1, 0}, {0, 1, 2}, {0, 2, 1}, {1, 0, 2}, {1, 2, 0}, {2, 0, 1}, {2, 1, 0}}
	for i, want := range []int64{0, 1, 0, 1, 2, 3, 4, 5} {
		if got, code := impl.PermutationNumber(examples[i]); got != want || code != impl.ErrNone {
			t.Errorf("PermutationNumber(%v) = %d, %d", examples[i], got, code)
		}
	}
}

// TestPermutationNumberOfAllLists gives all short lists of small numbers.
func TestPermutationNumberOfAllLists(t *testing.T) {
	lists := [][]int64{nil}
	for i := 0; i < len(lists); i++ {
		list := lists[i]
		for k := int64(-1); k <= 4 && len(list) < 4; k++ {
			lists = append(lists, append(slices.Clone(list), k))
		}
		want, wantCode := int64(0), int64(impl.ErrRange)
		for d := int64(2); d <= 3; d++ {
			if at := slices.IndexFunc(permutationLists(d), func(p []int64) bool { return slices.Equal(p, list) }); at >= 0 {
				want, wantCode = int64(at), impl.ErrNone
			}
		}
		if got, code := impl.PermutationNumber(list); got != want || code != wantCode {
			t.Errorf("PermutationNumber(%v) = %d, %d", list, got, code)
		}
	}
}

func TestPermutationNumberErrors(t *testing.T) {
	lists := [][]int64{{256, 1}, {0, 257}, {0, 1, 258}, {0, 1, 2, 3}, {1, 0, 2, 3}, make([]int64, 5000), {-0, -1}, {0, -255}}
	for _, far := range farNumbers {
		lists = append(lists, []int64{far}, []int64{far, 0}, []int64{0, far}, []int64{far, 1, 2}, []int64{0, far, 2}, []int64{0, 1, far}, []int64{far, far, far})
	}
	for _, list := range lists {
		if got, code := impl.PermutationNumber(list); got != 0 || code != impl.ErrRange {
			t.Errorf("PermutationNumber(%.20v) = %d, %d", list, got, code)
		}
	}
}

func TestPermutationOfPortrait(t *testing.T) {
	for _, s := range allShapes() {
		for _, list := range s.some() {
			got, code := impl.PermutationOfPortrait(s.d, int64(s.n), list)
			expectList(t, fmt.Sprintf("PermutationOfPortrait(%v, %v)", s, list), got, code, permutationBy(s, list))
		}
	}
}

// TestPortraitsComeBack is a part of promise 3.
func TestPortraitsComeBack(t *testing.T) {
	for _, s := range append(allShapes(), shape{2, 3}, shape{3, 2}) {
		lists := s.some()
		if s.n == 2 {
			lists = s.all()
		}
		for _, list := range lists {
			images := must(impl.PermutationOfPortrait(s.d, int64(s.n), list))
			got, code := impl.PortraitOfPermutation(s.d, int64(s.n), images)
			expectList(t, fmt.Sprintf("PortraitOfPermutation(%v, %v)", s, images), got, code, list)
		}
	}
}

// TestPortraitOfPermutationOfAllLists gives all lists of some small numbers: only the level
// permutations have portraits.
func TestPortraitOfPermutationOfAllLists(t *testing.T) {
	for _, s := range []shape{{2, 1}, {2, 2}, {3, 1}} {
		portraits := map[string][]int64{}
		for _, list := range s.all() {
			portraits[fmt.Sprint(permutationBy(s, list))] = list
		}
		length := len(wordsOf(s.d, s.n))
		lists := [][]int64{{}}
		for i := 0; i < len(lists); i++ {
			list := lists[i]
			for k := -1; k <= length && len(list) < length; k++ {
				lists = append(lists, append(slices.Clone(list), int64(k)))
			}
			want, ok := portraits[fmt.Sprint(list)]
			got, code := impl.PortraitOfPermutation(s.d, int64(s.n), list)
			if !slices.Equal(got, want) || ok != (code == impl.ErrNone) || !ok && code != impl.ErrState {
				t.Errorf("PortraitOfPermutation(%v, %v) = %v, %d, not %v", s, list, got, code, want)
			}
		}
	}
}

// keepsBeginnings reports whether words with a common beginning of any length are led to such words.
func keepsBeginnings(s shape, images []int64) bool {
	for span := int64(1); span < int64(len(images)); span *= s.d {
		for i := range images {
			for j := range images {
				if int64(i)/span == int64(j)/span && images[i]/span != images[j]/span {
					return false
				}
			}
		}
	}
	return true
}

// TestPortraitOfOtherPermutations exchanges two images of level permutations.
func TestPortraitOfOtherPermutations(t *testing.T) {
	for _, s := range allShapes() {
		d := dice(5)
		refused := 0
		for range 60 {
			images := permutationBy(s, s.random(&d))
			i, j := d.roll(int64(len(images))), d.roll(int64(len(images)))
			images[i], images[j] = images[j], images[i]
			got, code := impl.PortraitOfPermutation(s.d, int64(s.n), images)
			if keepsBeginnings(s, images) {
				if code != impl.ErrNone || !slices.Equal(permutationBy(s, got), images) {
					t.Errorf("PortraitOfPermutation(%v, %v) = %v, %d", s, images, got, code)
				}
				continue
			}
			refused++
			if code != impl.ErrState || len(got) != 0 {
				t.Errorf("PortraitOfPermutation(%v, %v) = %v, %d", s, images, got, code)
			}
		}
		if s.n > 1 && refused < 20 {
			t.Errorf("%v: only %d permutations are none of portraits", s, refused)
		}
	}
}

// TestPortraitOfNoPermutation spoils each place of a level permutation.
func TestPortraitOfNoPermutation(t *testing.T) {
	for _, s := range allShapes() {
		d := dice(11)
		images := permutationBy(s, s.random(&d))
		size := int64(len(images))
		for i, k := range images {
			for _, wrong := range append([]int64{-1, -k - 1, size, k + size, k - size, k + s.d*size, images[(i+1)%len(images)]}, farNumbers...) {
				list := slices.Clone(images)
				list[i] = wrong
				if got, code := impl.PortraitOfPermutation(s.d, int64(s.n), list); len(got) != 0 || code != impl.ErrState {
					t.Errorf("PortraitOfPermutation(%v, %v) = %v, %d", s, list, got, code)
				}
			}
		}
		lists := [][]int64{nil, images[1:], images[:len(images)-1], append(slices.Clone(images), size), append(slices.Clone(images), 0), make([]int64, 5000), {0}}
		for _, other := range allShapes() {
			if other != s {
				lists = append(lists, permutationBy(other, make([]int64, other.size())))
			}
		}
		for _, list := range lists {
			if got, code := impl.PortraitOfPermutation(s.d, int64(s.n), list); len(got) != 0 || code != impl.ErrState {
				t.Errorf("PortraitOfPermutation(%v, %.40v) = %v, %d", s, list, got, code)
			}
		}
	}
}
