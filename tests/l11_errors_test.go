package tests

import (
	"slices"
	"testing"

	"loop.example/g01244/impl"
)

// badDesks returns structs that are no desks, each by one fault.
func badDesks() []impl.Desk {
	list := []impl.Desk{{}, {First: []int64{1}}, {Second: []int64{1}}}
	for _, m := range badMachines() {
		list = append(list, impl.Desk{Machine: m}, impl.Desk{Machine: m, First: []int64{1}, Second: []int64{-1}})
	}
	for _, text := range machineTexts {
		m := must(impl.ParseMachine(text))
		for _, g := range badGroups(m) {
			list = append(list, impl.Desk{Machine: m, First: g}, impl.Desk{Machine: m, Second: g}, impl.Desk{Machine: m, First: []int64{1}, Second: g},
				impl.Desk{Machine: m, First: g, Second: []int64{-1}}, impl.Desk{Machine: m, First: g, Second: g})
		}
	}
	return list
}

// TestBadDesks runs lines that need no part of the desk, too.
func TestBadDesks(t *testing.T) {
	for _, d := range badDesks() {
		if impl.IsDesk(d) {
			t.Errorf("IsDesk(%.100v) is true", d)
		}
		for _, line := range []string{"show", "word", "other", "reset", "known adding", "machine 2:0a1a", "first ", "second ", "swap", "power 0", "inverse", "abelian", "fly", "", " "} {
			after, output := impl.RunLine(d, line)
			if after.Machine != (impl.Machine{}) || len(after.First) != 0 || len(after.Second) != 0 || output != "" {
				t.Errorf("RunLine(%.100v, %q) = %v, %q", d, line, after, output)
			}
		}
	}
}

func TestGoodDesks(t *testing.T) {
	for _, m := range someMachines(t) {
		for _, g := range manyGroups(m) {
			for _, d := range []impl.Desk{{Machine: m, First: g}, {Machine: m, Second: g}, {Machine: m, First: g, Second: []int64{-m.States}}, {Machine: m, First: []int64{}, Second: []int64{}}, {Machine: m, First: g, Second: g}} {
				if !impl.IsDesk(d) {
					t.Errorf("IsDesk(%v) is false", d)
				}
			}
		}
	}
}

// TestDesksAreLeft gives desks with spare memory behind their words, which no line may change. It spoils the desk
// after each line, too, which may share no memory with the desk before, and whose words may share none.
func TestDesksAreLeft(t *testing.T) {
	m := must(impl.KnownMachine("gupta"))
	for _, line := range append(goodLines(3), "fly", "", " ", "first", "power 00", "act 3") {
		first, second := slices.Repeat([]int64{2, -3, 1, -2}, 10), slices.Repeat([]int64{3, 3, -2, 4}, 10)
		before := impl.Desk{Machine: m, First: first[:3], Second: second[:2]}
		after, _ := impl.RunLine(before, line)
		wantFirst, wantSecond := slices.Clone(after.First), slices.Clone(after.Second)
		checkAndSpoil(t, [][]int64{after.First, after.Second}, [][]int64{wantFirst, wantSecond})
		if !slices.Equal(first, slices.Repeat([]int64{2, -3, 1, -2}, 10)) || !slices.Equal(second, slices.Repeat([]int64{3, 3, -2, 4}, 10)) {
			t.Errorf("%q: the arguments became %v and %v", line, first, second)
		}
		shared := slices.Repeat([]int64{2, -3, 1, -2}, 10)
		after, _ = impl.RunLine(impl.Desk{Machine: m, First: shared[:3], Second: shared[:3]}, line)
		wantFirst, wantSecond = slices.Clone(after.First), slices.Clone(after.Second)
		checkAndSpoil(t, [][]int64{after.First, after.Second}, [][]int64{wantFirst, wantSecond})
		if !slices.Equal(shared, slices.Repeat([]int64{2, -3, 1, -2}, 10)) {
			t.Errorf("%q: the arguments became %v", line, shared)
		}
	}
}

// TestDesksAreNew spoils the desks of texts and the new ones: those of a second call may not notice.
func TestDesksAreNew(t *testing.T) {
	text := "first bcde\nsecond EDC\nswap"
	for range 2 {
		d, ok := impl.DeskAfter(text)
		if !ok {
			t.Errorf("DeskAfter(%q) is refused", text)
		}
		checkAndSpoil(t, [][]int64{d.First, d.Second}, [][]int64{{-5, -4, -3}, {2, 3, 4, 5}})
		d = impl.NewDesk()
		checkAndSpoil(t, [][]int64{d.First, d.Second}, [][]int64{nil, nil})
	}
}
