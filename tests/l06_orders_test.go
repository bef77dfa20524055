package tests

import (
	"fmt"
	"slices"
	"strings"
	"testing"

	"loop.example/g01244/impl"
)

func TestOrderConstants(t *testing.T) {
	if impl.MaxDeep != 12 {
		t.Errorf("limit %d", impl.MaxDeep)
	}
}

// testReturn compares ReturnOf with the definition, for all letters.
func testReturn(t *testing.T, r ranker, g []int64) {
	t.Helper()
	for x := range r.machine.Letters {
		want, length, wantCode := r.returnBy(g, fmt.Sprint(x))
		got, k, code := impl.ReturnOf(r.machine, g, x)
		if !slices.Equal(got, want) || k != length || code != wantCode {
			t.Errorf("ReturnOf(%v, %v, %d) = %v, %d, %d, not %v, %d, %d", r.machine, g, x, got, k, code, want, length, wantCode)
		}
	}
}

// testOrder compares OrderOf and InfiniteProof with the definition, which it returns.
func testOrder(t *testing.T, r ranker, g []int64) verdict {
	t.Helper()
	want := r.orderBy(g)
	if got, code := impl.OrderOf(r.machine, g); got != want.order || code != want.code {
		t.Errorf("OrderOf(%v, %v) = %d, %d, not %d, %d", r.machine, g, got, code, want.order, want.code)
	}
	wantCode := want.code
	if want.order != 0 {
		wantCode = impl.ErrNotFound
	}
	if got, code := impl.InfiniteProof(r.machine, g); got != want.proof || code != wantCode {
		t.Errorf("InfiniteProof(%v, %v) = %v, %d, not %v, %d", r.machine, g, got, code, want.proof, wantCode)
	}
	return want
}

func TestReturnOf(t *testing.T) {
	for _, m := range orderMachines(t) {
		r := rankerOf(m)
		for _, g := range orderWords(m) {
			testReturn(t, r, g)
		}
	}
}

// TestOrderOf looks whether its words have orders and proofs of all kinds.
func TestOrderOf(t *testing.T) {
	met := map[string]bool{}
	for _, m := range orderMachines(t) {
		r := rankerOf(m)
		for _, g := range orderWords(m) {
			end := testOrder(t, r, g)
			switch {
			case end.code != impl.ErrNone:
				met[fmt.Sprintf("%d letters, code %d, %d words", m.Letters, end.code, end.deepest)] = true
			case end.order == 0:
				met[fmt.Sprintf("%d letters, proof of %d, place %d, factor %d", m.Letters, min(len(end.proof.Word), 3), min(end.place, 2), end.proof.Factor)] = true
			default:
				met[fmt.Sprintf("%d letters, order %d", m.Letters, end.order)] = true
			}
		}
	}
	for _, what := range []string{
		"2 letters, order 1", "2 letters, order 2", "2 letters, order 4", "2 letters, order 8", "2 letters, order 16",
		"3 letters, order 1", "3 letters, order 2", "3 letters, order 3", "3 letters, order 4", "3 letters, order 6", "3 letters, order 9", "3 letters, order 12", "3 letters, order 18",
		"2 letters, proof of 1, place 0, factor 2", "2 letters, proof of 1, place 1, factor 2", "2 letters, proof of 2, place 0, factor 4", "2 letters, proof of 2, place 2, factor 2", "2 letters, proof of 3, place 1, factor 16",
		"3 letters, proof of 1, place 0, factor 3", "3 letters, proof of 1, place 2, factor 2", "3 letters, proof of 2, place 0, factor 9", "3 letters, proof of 3, place 1, factor 9",
		"2 letters, code 3, 1 words", "2 letters, code 3, 6 words", "2 letters, code 3, 12 words", "3 letters, code 3, 1 words", "3 letters, code 3, 12 words",
	} {
		if !met[what] {
			t.Errorf("no word with %s: %v", what, met)
		}
	}
}

func TestOrdersOfStates(t *testing.T) {
	met := map[int64]bool{}
	for _, m := range append(orderMachines(t), graphMachines(t)...) {
		var want []int64
		wantCode := int64(impl.ErrNone)
		for q := range m.States {
			end := rankerOf(m).orderBy([]int64{q + 1})
			want = append(want, end.order)
			wantCode = max(wantCode, end.code)
		}
		met[wantCode] = true
		if wantCode != impl.ErrNone {
			want = nil
		}
		if got, code := impl.OrdersOfStates(m); !slices.Equal(got, want) || code != wantCode {
			t.Errorf("OrdersOfStates(%v) = %v, %d, not %v, %d", m, got, code, want, wantCode)
		}
	}
	if !met[impl.ErrNone] || !met[impl.ErrLimit] {
		t.Errorf("codes %v", met)
	}
}

func TestGroupOrderExamples(t *testing.T) {
	const grigorchuk = "2:0a1a,1a0a,0b1d,0b1e,0a1c"
	const hanoi = "3:0a1a2a,1a0a2b,2a1c0a,0d2a1a"
	examples := []struct {
		machine, group string
		order          int64
		proof          impl.Proof
	}{
		{"2:0a1a,1a0a", "b", 2, impl.Proof{}}, {"2:0a1a,1a0a", "", 1, impl.Proof{}}, {"2:0a1a,1a0a", "aAa", 1, impl.Proof{}}, {"2:0a1a,1a0a", "bb", 1, impl.Proof{}},
		{"2:0a1a,1a0b", "", 1, impl.Proof{}}, {"2:0a1a,1a0b", "a", 1, impl.Proof{}}, {"2:0a1a,1a0b", "baB", 1, impl.Proof{}},
		{"2:0a1a,1a0b", "b", 0, impl.Proof{Word: "0", Factor: 2}}, {"2:0a1a,1a0b", "B", 0, impl.Proof{Word: "0", Factor: 2}}, {"2:0a1a,1a0b", "bbbb", 0, impl.Proof{Word: "0", Factor: 2}},
		{"3:0a1a2a,1a2a0b", "b", 0, impl.Proof{Word: "0", Factor: 3}}, {"3:0a1a2a,1a2a0b", "BBB", 0, impl.Proof{Word: "0", Factor: 3}},
		{grigorchuk, "b", 2, impl.Proof{}}, {grigorchuk, "c", 2, impl.Proof{}}, {grigorchuk, "e", 2, impl.Proof{}}, {grigorchuk, "cd", 2, impl.Proof{}}, {grigorchuk, "cde", 1, impl.Proof{}},
		{grigorchuk, "be", 4, impl.Proof{}}, {grigorchuk, "bd", 8, impl.Proof{}}, {grigorchuk, "bc", 16, impl.Proof{}}, {grigorchuk, "bcbcbcbc", 4, impl.Proof{}},
		{"2:0a1a,0a1c,1a0b", "b", 0, impl.Proof{Word: "10", Factor: 2}}, {"2:0a1a,0a1c,1a0b", "c", 0, impl.Proof{Word: "01", Factor: 2}},
		{"2:0a1a,0a1c,1a0b", "bc", 0, impl.Proof{Word: "0", Factor: 2}}, {"2:0a1a,0a1c,1a0b", "bC", 0, impl.Proof{Word: "00", Factor: 4}},
		{"2:0a1b,1a0b", "aB", 2, impl.Proof{}},
		{"3:0a1a2a,1a2a0a,0b1c2d,2a0a1a", "b", 3, impl.Proof{}}, {"3:0a1a2a,1a2a0a,0b1c2d,2a0a1a", "c", 3, impl.Proof{}}, {"3:0a1a2a,1a2a0a,0b1c2d,2a0a1a", "bc", 9, impl.Proof{}},
		{"3:0a1a2a,1a2a0a,1a0a2a,0b1c2a", "d", 6, impl.Proof{}}, {"3:0a1a2a,1a2a0a,1a0a2a,0b1c2a", "cd", 4, impl.Proof{}},
		{hanoi, "c", 2, impl.Proof{}}, {hanoi, "bc", 0, impl.Proof{Word: "00", Factor: 9}}, {hanoi, "bcd", 0, impl.Proof{Word: "00", Factor: 4}}, {hanoi, "bcbd", 0, impl.Proof{Word: "0", Factor: 3}},
	}
	for _, e := range examples {
		m := parse(t, e.machine)
		if end := testOrder(t, rankerOf(m), groupOf(m, e.group)); end.code != impl.ErrNone || end.order != e.order || end.proof != e.proof {
			t.Errorf("%s, %s: %v", e.machine, e.group, end)
		}
	}
	orders := must(impl.OrdersOfStates(parse(t, grigorchuk)))
	expectList(t, "OrdersOfStates of the first machine", orders, impl.ErrNone, []int64{1, 2, 2, 2, 2})
	expectList(t, "OrdersOfStates of the second machine", must(impl.OrdersOfStates(parse(t, "2:0a1a,1a0b"))), impl.ErrNone, []int64{1, 0})
}

// TestReturnExamples asks for returns of words that are not normal, and of letters that are not the
// least ones of their cycles.
func TestReturnExamples(t *testing.T) {
	examples := []struct {
		machine, group string
		letter         int64
		back           string
		length         int64
	}{
		{"2:0a1a,1a0b", "", 0, "", 1}, {"2:0a1a,1a0b", "b", 0, "b", 2}, {"2:0a1a,1a0b", "b", 1, "b", 2}, {"2:0a1a,1a0b", "B", 1, "B", 2},
		{"2:0a1a,1a0b", "abBa", 1, "", 1}, {"2:0a1a,1a0b", "bbb", 0, "bbb", 2}, {"2:0a1a,1a0b", "bb", 1, "b", 1},
		{"2:0a1a,0a1c,1a0b", "c", 1, "b", 2}, {"2:0a1a,0a1c,1a0b", "bc", 0, "cb", 2}, {"2:0a1a,0a1c,1a0b", "bc", 1, "cb", 2}, {"2:0a1a,0a1c,1a0b", "bcb", 0, "ccb", 2},
		{"3:0a1a2a,1a0a2b,2a1c0a,0d2a1a", "b", 2, "b", 1}, {"3:0a1a2a,1a0a2b,2a1c0a,0d2a1a", "bc", 0, "cb", 3}, {"3:0a1a2a,1a0a2b,2a1c0a,0d2a1a", "bc", 2, "bc", 3},
		{"3:0b1c2d,1a2a0b,2a1c0a,0a1a2a", "c", 1, "c", 1}, {"3:0b1c2d,1a2a0b,2a1c0a,0a1a2a", "a", 0, "b", 1}, {"3:0b1c2d,1a2a0b,2a1c0a,0a1a2a", "b", 1, "aba", 3},
	}
	for _, e := range examples {
		m := parse(t, e.machine)
		got, k, code := impl.ReturnOf(m, groupOf(m, e.group), e.letter)
		if !slices.Equal(got, groupOf(m, e.back)) || k != e.length || code != impl.ErrNone {
			t.Errorf("ReturnOf(%s, %s, %d) = %v, %d, %d", e.machine, e.group, e.letter, got, k, code)
		}
	}
}

// limitCase is a word, with what its search ends with.
type limitCase struct {
	name    string
	machine impl.Machine
	group   []int64
	order   int64
	code    int64
	proof   impl.Proof
}

func testLimits(t *testing.T, list []limitCase) {
	t.Helper()
	for _, c := range list {
		end := testOrder(t, rankerOf(c.machine), c.group)
		if end.order != c.order || end.code != c.code || end.proof != c.proof {
			t.Errorf("%s: %v", c.name, end)
		}
	}
}

// testLongest looks at a search whose path has exactly MaxDeep words, and at the same one with a rung
// more in its ladder.
func testLongest(t *testing.T, longest limitCase, rungs int64, ladderOf func(rungs int64) impl.Machine) {
	t.Helper()
	longest.machine, longest.group = ladderOf(rungs), []int64{1}
	tooLong := limitCase{name: longest.name + ", one more", machine: ladderOf(rungs + 1), group: []int64{1}, code: impl.ErrLimit}
	testLimits(t, []limitCase{longest, tooLong})
	for _, c := range []limitCase{longest, tooLong} {
		if end := rankerOf(c.machine).orderBy(c.group); end.deepest != impl.MaxDeep {
			t.Errorf("%s: %d words", c.name, end.deepest)
		}
	}
}

func TestLongestPaths(t *testing.T) {
	plain := func(m *impl.Machine) {}
	testLongest(t, limitCase{name: "last word is empty", order: 2048}, 11, func(rungs int64) impl.Machine { return ladder(2, rungs, swapTwo, plain) })
	testLongest(t, limitCase{name: "last word is empty, cycles of three", order: 177147}, 11, func(rungs int64) impl.Machine { return ladder(3, rungs, turnThree, plain) })
	testLongest(t, limitCase{name: "last word is infinite", proof: impl.Proof{Word: "0", Factor: 2}}, 12, func(rungs int64) impl.Machine {
		return ladder(2, rungs, stayTwo, func(m *impl.Machine) { m.Out[rungs-1], m.Next[rungs-1][0] = swapTwo, byte(rungs-1) })
	})
	zeros := strings.Repeat("0", impl.MaxDeep)
	testLongest(t, limitCase{name: "last word returns to the first one", proof: impl.Proof{Word: zeros, Factor: 2048}}, 12, func(rungs int64) impl.Machine {
		return ladder(2, rungs, swapTwo, func(m *impl.Machine) { m.Out[0], m.Next[rungs-1][0] = stayTwo, 0 })
	})
	testLongest(t, limitCase{name: "last word returns to the first one, cycles of three", proof: impl.Proof{Word: zeros, Factor: 354294}}, 12, func(rungs int64) impl.Machine {
		return ladder(3, rungs, turnThree, func(m *impl.Machine) { m.Out[0], m.Next[rungs-1][0] = swapThree, 0 })
	})
	testLongest(t, limitCase{name: "last word returns to the second one", proof: impl.Proof{Word: zeros[1:], Factor: 1024}}, 12, func(rungs int64) impl.Machine {
		return ladder(3, rungs, swapThree, func(m *impl.Machine) { m.Out[0], m.Out[1], m.Next[rungs-1][0] = turnThree, stayThree, 1 })
	})
	testLongest(t, limitCase{name: "words return with the factor 1", order: 2}, 12, func(rungs int64) impl.Machine {
		return ladder(2, rungs, stayTwo, func(m *impl.Machine) {
			for q := range rungs {
				m.Next[q][1] = byte(q)
			}
			m.Next[0][1], m.Next[rungs-1][0] = byte(rungs+1), 0
		})
	})
	testLimits(t, []limitCase{
		{name: "last word returns to itself", machine: chain(2), group: []int64{6}, order: 2}, {name: "last word returns to itself", machine: chain(2), group: []int64{5}, code: impl.ErrLimit},
		{name: "inverse, three letters", machine: chain(3), group: []int64{-6}, order: 2}, {name: "inverse, three letters", machine: chain(3), group: []int64{-5}, code: impl.ErrLimit},
	})
}

// TestLongestReturns has words that are taken again and again up to exactly MaxGroup numbers, and more.
func TestLongestReturns(t *testing.T) {
	twos, threes := parse(t, "2:0a1a,1a0a,0b1b"), parse(t, "3:0a1a2a,1a2a0a,0b1b2b")
	word := func(count int, rest ...int64) []int64 { return append(slices.Repeat([]int64{2}, count), rest...) }
	examples := []struct {
		machine impl.Machine
		group   []int64
		code    int64
		length  int64
	}{
		{twos, word(19, 3), impl.ErrNone, 2}, {twos, word(19, 3, 3), impl.ErrLimit, 0}, {twos, word(21), impl.ErrLimit, 0}, {twos, word(19), impl.ErrNone, 2}, {twos, word(39, 3), impl.ErrLimit, 0},
		{twos, word(40), impl.ErrNone, 1}, {twos, word(20, 3), impl.ErrNone, 1}, {twos, word(38, 3, 3), impl.ErrNone, 1}, {twos, word(39), impl.ErrLimit, 0},
		{threes, word(13), impl.ErrNone, 3}, {threes, word(11, 3, 3), impl.ErrNone, 3}, {threes, word(14), impl.ErrLimit, 0}, {threes, word(13, 3), impl.ErrLimit, 0}, {threes, word(40), impl.ErrLimit, 0},
		{threes, word(15), impl.ErrNone, 1}, {threes, word(39, 3), impl.ErrNone, 1},
	}
	for _, e := range examples {
		testReturn(t, rankerOf(e.machine), e.group)
		end := testOrder(t, rankerOf(e.machine), e.group)
		_, k, code := impl.ReturnOf(e.machine, e.group, 0)
		if k != e.length || code != e.code || end.code != e.code {
			t.Errorf("%v, %v: %d, %d, %v", e.machine, e.group, k, code, end)
		}
	}
	// The search takes the normal word, and ReturnOf the word itself.
	for _, g := range [][]int64{word(19, 1, 3), word(1, slices.Repeat([]int64{1}, 39)...), word(1, slices.Repeat([]int64{2, -2}, 19)...)} {
		testReturn(t, rankerOf(twos), g)
		if _, _, code := impl.ReturnOf(twos, g, 0); code != impl.ErrLimit {
			t.Errorf("ReturnOf(%v, %v): code %d", twos, g, code)
		}
		if end := testOrder(t, rankerOf(twos), g); end.code != impl.ErrNone {
			t.Errorf("%v, %v: %v", twos, g, end)
		}
	}
}

// TestCyclesAreTakenInOrder has words with a cycle of the order 0 and another one that is too long.
func TestCyclesAreTakenInOrder(t *testing.T) {
	m := parse(t, "3:0a1a2a,1a2a0b,0b2a1a,1a0a2b,2a1b0a")
	for k, want := range map[int64]limitCase{
		3: {name: "infinite cycle first", proof: impl.Proof{Word: "0", Factor: 3}}, 4: {name: "long cycle first", code: impl.ErrLimit}, 5: {name: "long cycle first, its letters apart", code: impl.ErrLimit},
	} {
		want.machine, want.group = m, slices.Repeat([]int64{k}, 21)
		testLimits(t, []limitCase{want})
		testReturn(t, rankerOf(m), want.group)
		want.group = []int64{k}
		want.proof, want.code = impl.Proof{Word: "0", Factor: 3}, impl.ErrNone
		testLimits(t, []limitCase{want})
	}
}

// TestLeastLettersTellCycles has words whose orders would not be found from the other letters of cycles.
func TestLeastLettersTellCycles(t *testing.T) {
	examples := []struct {
		machine, group string
		order          int64
		proof          impl.Proof
	}{
		{"2:1c0a,0a1a,0d1c,1c0a", "DbabcBdBABCbbDBBdbBa", 4, impl.Proof{}}, {"2:1d0e,1b0a,0e1d,0e1c,1d0b", "dABeCCda", 8, impl.Proof{}},
		{"3:1a2a0a,0b2a1a", "BbBababbbBbABBBbbB", 12, impl.Proof{}}, {"3:0a1a2a,0a1c2a,0e1c2a,0f1c2d,0c2a1a,1a0d2e", "DfDcFfADfEdCffecDE", 0, impl.Proof{Word: "00", Factor: 2}},
	}
	for _, e := range examples {
		m := parse(t, e.machine)
		testLimits(t, []limitCase{{name: e.machine, machine: m, group: groupOf(m, e.group), order: e.order, proof: e.proof}})
	}
}

// TestLargeOrder has an order of which one letter brings the factors 3, and two others the factors 2.
func TestLargeOrder(t *testing.T) {
	m := parse(t, "3:0b2i1p,1c2p0p,1d2p0p,1e2p0p,1f2p0p,1g2p0p,1h2p0p,1p2p0p,1j0p2p,1k0p2p,1l0p2p,1m0p2p,1n0p2p,1o0p2p,1p0p2p,0p1p2p")
	testLimits(t, []limitCase{{name: "seven factors 3, and eight factors 2", machine: m, group: []int64{1}, order: 2187 * 256}})
}
