package tests

import (
	"slices"
	"testing"

	"loop.example/g01244/impl"
)

// largeElements are group words whose machine would have too many states, or whose queue is too long.
var largeElements = []element{
	{"2:0a1b,1c0c,1a0c", "CBC"}, {"3:0e2a1c,1c2c0b,0b2a1a,0b2d1e,0a2b1a", "Ed"}, longQueues[0], longQueues[1], hiddenDifferences[0],
}

// someLists returns lists of group words of m, among which are its nucleus, if it has one, and lists
// near to it.
func someLists(m impl.Machine) [][][]int64 {
	d := dice(m.States*10 + m.Letters)
	lists := [][][]int64{nil, {nil}, {{1}}, {{-m.States}, nil}, {{1, -1}}, keeperOf(m).statesBy()}
	for n := int64(1); n <= 5; n++ {
		var list [][]int64
		for range n {
			list = append(list, randomGroup(&d, m, d.roll(4)))
		}
		lists = append(lists, list)
	}
	lists = append(lists, [][]int64{nil, randomGroup(&d, m, impl.MaxGroup/2)}, [][]int64{nil, randomGroup(&d, m, impl.MaxGroup/2+1)})
	nucleus, code := impl.NucleusOf(m)
	if code != impl.ErrNone {
		return lists
	}
	turned := slices.Clone(nucleus)
	slices.Reverse(turned)
	more := append(slices.Clone(nucleus), randomGroup(&d, m, 2), randomGroup(&d, m, 5))
	for _, list := range [][][]int64{nucleus, turned, nucleus[1:], nucleus[:len(nucleus)-1], more, slices.Concat(nucleus, nucleus)} {
		if len(list) <= impl.MaxNucleus {
			lists = append(lists, list)
		}
	}
	return lists
}

func TestLists(t *testing.T) {
	closed, depths, in := map[int64]int{}, map[int64]int{}, map[int64]int{}
	for i, m := range append(nuclearMachines(t), someMachines(t)...) {
		known := keeperOf(m)
		d := dice(i)
		for _, list := range someLists(m) {
			yes, wantCode := known.closedBy(list)
			if got, code := impl.IsClosedList(m, list); got != yes || code != wantCode {
				t.Errorf("IsClosedList(%v, %v) = %v, %d, not %v, %d", m, list, got, code, yes, wantCode)
			}
			closed[wantCode]++
			depth, wantCode := known.depthBy(list)
			if got, code := impl.DepthOfList(m, list); got != depth || code != wantCode {
				t.Errorf("DepthOfList(%v, %v) = %d, %d, not %d, %d", m, list, got, code, depth, wantCode)
			}
			depths[wantCode]++
			for _, g := range append([][]int64{nil, {1}, randomGroup(&d, m, 2), randomGroup(&d, m, 9)}, list...) {
				yes, wantCode := known.inBy(g, list)
				if got, code := impl.IsInList(m, g, list); got != yes || code != wantCode {
					t.Errorf("IsInList(%v, %v, %v) = %v, %d, not %v, %d", m, g, list, got, code, yes, wantCode)
				}
				in[wantCode]++
			}
		}
	}
	for _, codes := range []map[int64]int{closed, depths, in} {
		if codes[impl.ErrNone] < 500 || codes[impl.ErrLimit] < 100 {
			t.Errorf("codes %v, %v, %v", closed, depths, in)
		}
	}
	if depths[impl.ErrNotFound] < 50 {
		t.Errorf("depths %v", depths)
	}
}

// adderList returns powers of the state 1 of the adding machine.
func adderList(powers ...int) [][]int64 {
	var list [][]int64
	for _, n := range powers {
		list = append(list, slices.Repeat([]int64{2}, max(n, 0)))
		if n < 0 {
			list[len(list)-1] = slices.Repeat([]int64{-2}, -n)
		}
	}
	return list
}

func TestListsOfTheAdder(t *testing.T) {
	examples := []struct {
		list              [][]int64
		closed            bool
		closedCode        int64
		depth, depthsCode int64
	}{
		{nil, false, impl.ErrNone, 0, impl.ErrNone},
		{adderList(0), false, impl.ErrNone, 0, impl.ErrNone},
		{adderList(1), false, impl.ErrNone, 1, impl.ErrNone},
		{adderList(0, 1), false, impl.ErrNone, 1, impl.ErrNone},
		{adderList(0, -1), false, impl.ErrNone, 1, impl.ErrNone},
		{adderList(1, -1), false, impl.ErrNone, 0, impl.ErrNotFound},
		{adderList(0, 1, -1), true, impl.ErrNone, 1, impl.ErrNone},
		{adderList(-1, 0, 1, 0, 1), true, impl.ErrNone, 1, impl.ErrNone},
		{[][]int64{{1}, {1, 2, -1}, {-2, 2, -2}}, true, impl.ErrNone, 1, impl.ErrNone},
		{adderList(0, 1, -1, 2, -2), true, impl.ErrNone, 1, impl.ErrNone},
		{adderList(0, 1, -1, 2), true, impl.ErrNone, 1, impl.ErrNone},
		{adderList(0, 1, -1, 4), true, impl.ErrNone, 3, impl.ErrNone},
		{adderList(0, 1, -1, 8), true, impl.ErrNone, 4, impl.ErrNone},
		{adderList(0, 1, -1, 16), true, impl.ErrNone, 5, impl.ErrNone},
		{adderList(0, 1, -1, 17), true, impl.ErrNone, 0, impl.ErrNotFound},
		{adderList(0, 1, -1, -20), true, impl.ErrNone, 0, impl.ErrNotFound},
		{adderList(20), false, impl.ErrNone, 1, impl.ErrNone},
		{adderList(0, 1, -1, 21), false, impl.ErrLimit, 0, impl.ErrLimit},
		{adderList(0, 1, -1, 40), false, impl.ErrLimit, 0, impl.ErrLimit},
		{adderList(-21), false, impl.ErrLimit, 0, impl.ErrLimit},
		{[][]int64{nil, {2}, {-2}, slices.Repeat([]int64{1, -1}, 10)}, true, impl.ErrNone, 1, impl.ErrNone},
		{[][]int64{nil, {2}, {-2}, slices.Repeat([]int64{1}, 21)}, false, impl.ErrLimit, 0, impl.ErrLimit},
		{adderList(slices.Repeat([]int{0, 1, -1, 1}, impl.MaxNucleus/4)...), true, impl.ErrNone, 1, impl.ErrNone},
		{adderList(slices.Repeat([]int{0}, impl.MaxNucleus)...), false, impl.ErrNone, 0, impl.ErrNone},
		{adderList(slices.Repeat([]int{0}, impl.MaxNucleus+1)...), false, impl.ErrRange, 0, impl.ErrRange},
	}
	m := parse(t, "2:0a1a,1a0b")
	for _, e := range examples {
		if got, code := impl.IsClosedList(m, e.list); got != e.closed || code != e.closedCode {
			t.Errorf("IsClosedList(%v) = %v, %d", e.list, got, code)
		}
		if got, code := impl.DepthOfList(m, e.list); got != e.depth || code != e.depthsCode {
			t.Errorf("DepthOfList(%v) = %v, %d", e.list, got, code)
		}
	}
}

// TestFullLists looks at lists of exactly MaxNucleus words, of which no two are equal, and of one more.
func TestFullLists(t *testing.T) {
	m := shiftMachine(5)
	nucleus := must(impl.NucleusOf(m))
	if len(nucleus) != impl.MaxNucleus || !must(impl.IsClosedList(m, nucleus)) || must(impl.DepthOfList(m, nucleus)) != 0 {
		t.Errorf("the nucleus of the machine of five shifts is %v", nucleus)
	}
	for i, g := range nucleus {
		if !must(impl.IsInList(m, g, nucleus)) || must(impl.IsInList(m, g, slices.Delete(slices.Clone(nucleus), i, i+1))) {
			t.Errorf("IsInList(%v)", g)
		}
	}
	longer := append(slices.Clone(nucleus), nil)
	if yes, code := impl.IsInList(m, nil, longer); yes || code != impl.ErrRange {
		t.Errorf("IsInList = %v, %d", yes, code)
	}
	if yes, code := impl.IsClosedList(m, longer); yes || code != impl.ErrRange {
		t.Errorf("IsClosedList = %v, %d", yes, code)
	}
	if depth, code := impl.DepthOfList(m, longer); depth != 0 || code != impl.ErrRange {
		t.Errorf("DepthOfList = %d, %d", depth, code)
	}
}

func TestIsInListExamples(t *testing.T) {
	examples := []struct {
		machine, group string
		list           []string
		want           bool
	}{
		{"2:0a1a,1a0b", "", nil, false}, {"2:0a1a,1a0b", "", []string{""}, true}, {"2:0a1a,1a0b", "aA", []string{"b", "bB"}, true}, {"2:0a1a,1a0b", "b", []string{"", "B"}, false},
		{"2:0a1a,1a0b", "bab", []string{"", "B", "bb"}, true}, {"2:0a1a,1a0b", "bbb", []string{"", "B", "bb"}, false}, {"2:1a0a", "aaa", []string{"aa", "A"}, true},
		{"2:0a1a,1a0a,0b1d,0b1e,0a1c", "cd", []string{"b", "e"}, true}, {"2:0a1a,1a0a,0b1d,0b1e,0a1c", "bebebeb", []string{"E", "EE", "e"}, true}, {"2:0a1a,1a0a,0b1d,0b1e,0a1c", "bcbc", []string{"cbcb", "", "b"}, false},
		{"2:0a1b,1a0b", "Ba", []string{"aB", "bA", "Ab"}, true}, {"2:0a1b,1a0b", "ab", []string{"ba", "aa", "bb"}, false},
	}
	for _, e := range examples {
		m := parse(t, e.machine)
		if got, code := impl.IsInList(m, groupOf(m, e.group), groupsOf(m, e.list...)); got != e.want || code != impl.ErrNone {
			t.Errorf("IsInList(%s, %s, %q) = %v, %d", e.machine, e.group, e.list, got, code)
		}
	}
}

// TestLimitsOfLists has words without a machine as the word that is looked up, and in lists.
func TestLimitsOfLists(t *testing.T) {
	for _, e := range largeElements {
		m := parse(t, e.machine)
		g := groupOf(m, e.group)
		for _, list := range [][][]int64{nil, {nil}, {g}, {g, nil}, {nil, g}, {{1}, nil, g}} {
			if got, code := impl.IsInList(m, g, list); got || code != impl.ErrLimit {
				t.Errorf("IsInList(%v, %s, %v) = %v, %d", e, e.group, list, got, code)
			}
			if !slices.ContainsFunc(list, func(h []int64) bool { return slices.Equal(g, h) }) {
				continue
			}
			if got, code := impl.IsInList(m, nil, list); got || code != impl.ErrLimit {
				t.Errorf("IsInList(%v, {}, %v) = %v, %d", e, list, got, code)
			}
			if got, code := impl.IsClosedList(m, list); got || code != impl.ErrLimit {
				t.Errorf("IsClosedList(%v, %v) = %v, %d", e, list, got, code)
			}
			if got, code := impl.DepthOfList(m, list); got != 0 || code != impl.ErrLimit {
				t.Errorf("DepthOfList(%v, %v) = %d, %d", e, list, got, code)
			}
		}
	}
}

// TestDepthMeetsOneCodeFirst has nuclei with words that give, one followed by another one, words whose
// machine has too many states. They end the search where they are met, which they are not on a level
// on which another word, ahead of them, is not in the list.
func TestDepthMeetsOneCodeFirst(t *testing.T) {
	examples := []struct {
		machine     string
		depth, code int64
	}{
		{"3:0a1a2a,1c2a0a,1a0a2a,1g0a2c,2a0e1f,1g2c0a,0e1d2b", 0, impl.ErrLimit}, {"3:0a1a2a,2a0a1f,0a1f2a,2e0a1a,0b1a2a,1g0e2a,0c1f2a", 0, impl.ErrLimit},
		{"2:0a1b,0c1c,1a0a", 0, impl.ErrNotFound}, {"2:0d1c,0c1b,0c1c,0b1e,1e0a", 0, impl.ErrNotFound}, {"3:0a1a2a,2b1a0a,0d1d2a,0b2a1c", 4, impl.ErrNone}, {"3:0a1a2a,1a2d0a,0a1d2a,2g1b0a,1a2a0a,0f1a2a,0b1a2c", 0, impl.ErrNotFound},
	}
	for _, e := range examples {
		m := parse(t, e.machine)
		nucleus := must(impl.NucleusOf(m))
		if got, code := impl.DepthOfList(m, nucleus); got != e.depth || code != e.code {
			t.Errorf("DepthOfList(%s, nucleus) = %d, %d", e.machine, got, code)
		}
		if got, code := keeperOf(m).depthBy(nucleus); got != e.depth || code != e.code {
			t.Errorf("by definition, the depth of the nucleus of %s is %d, %d", e.machine, got, code)
		}
	}
}
