package tests

import (
	"slices"
	"strings"
	"testing"

	"loop.example/g01244/impl"
)

// TestOrdersOnLevels compares the orders, fixed words and periods of levels with the definitions.
func TestOrdersOnLevels(t *testing.T) {
	for i, m := range orderMachines(t) {
		// The deepest levels are looked at for some machines only: the definition is slow there.
		deepest := int64(3)
		if i%16 == 0 {
			deepest = impl.MaxLevel
		}
		for j, g := range orderWords(m) {
			if j%4 != i%4 {
				continue
			}
			for n := range deepest + 1 {
				testLevel(t, m, g, n)
			}
		}
	}
}

func testLevel(t *testing.T, m impl.Machine, g []int64, n int64) {
	t.Helper()
	images := imagesBy(m, g, n)
	if got, code := impl.OrderOnLevel(m, g, n); got != levelOrderBy(images) || code != impl.ErrNone {
		t.Errorf("OrderOnLevel(%v, %v, %d) = %d, %d, not %d", m, g, n, got, code, levelOrderBy(images))
	}
	var fixed []string
	for _, w := range wordsOf(m.Letters, int(n)) {
		if images[w] == w {
			fixed = append(fixed, w)
		}
		period := int64(1)
		for v := images[w]; v != w; v = images[v] {
			period++
		}
		if got, code := impl.PeriodOfWord(m, g, w); got != period || code != impl.ErrNone {
			t.Errorf("PeriodOfWord(%v, %v, %s) = %d, %d, not %d", m, g, w, got, code, period)
		}
	}
	if got, code := impl.FixedOfLevel(m, g, n); !slices.Equal(got, fixed) || code != impl.ErrNone {
		t.Errorf("FixedOfLevel(%v, %v, %d) = %v, %d, not %v", m, g, n, got, code, fixed)
	}
}

func TestLevelOrderExamples(t *testing.T) {
	examples := []struct {
		machine, group string
		level          int64
		order          int64
		fixed          string
		word           string
		period         int64
	}{
		{"2:0a1a,1a0b", "", 0, 1, "", "", 1}, {"2:0a1a,1a0b", "b", 0, 1, "", "", 1}, {"2:0a1a,1a0b", "b", 1, 2, "none", "1", 2}, {"2:0a1a,1a0b", "B", 5, 32, "none", "00000", 32},
		{"2:0a1a,1a0b", "bb", 2, 2, "none", "00", 2}, {"2:0a1a,1a0b", "bb", 1, 1, "0 1", "0", 1}, {"2:0a1a,1a0b", "bbbbbb", 4, 8, "none", "1011", 8}, {"2:0a1a,1a0b", "abaB", 2, 1, "00 01 10 11", "11", 1},
		{"3:0a1a2a,1a2a0b", "b", 5, 243, "none", "22222", 243}, {"3:0a1a2a,1a2a0b", "bbb", 2, 3, "none", "12", 3}, {"3:0a1a2a,1a2a0b", "", 1, 1, "0 1 2", "2", 1},
		{"2:0a1a,0a1c,1a0b", "b", 2, 2, "00 01", "10", 2}, {"2:0a1a,0a1c,1a0b", "b", 3, 2, "000 001 010 011", "111", 2}, {"2:0a1a,0a1c,1a0b", "b", 4, 4, "0000 0001 0010 0011 0100 0101 0110 0111", "1010", 4},
		{"3:0a1a2a,1a0a2b,2a1c0a,0d2a1a", "b", 2, 2, "22", "21", 2}, {"3:0a1a2a,1a0a2b,2a1c0a,0d2a1a", "bc", 1, 3, "none", "1", 3}, {"3:0a1a2a,1a0a2b,2a1c0a,0d2a1a", "bc", 2, 9, "none", "00", 9},
		{"3:0b1c2a,1a2a0a,1a0a2a", "a", 2, 6, "12 20 21 22", "02", 3}, {"3:0b1c2a,1a2a0a,1a0a2a", "a", 1, 1, "0 1 2", "1", 1},
	}
	for _, e := range examples {
		m := parse(t, e.machine)
		g := groupOf(m, e.group)
		testLevel(t, m, g, e.level)
		if got, code := impl.OrderOnLevel(m, g, e.level); got != e.order || code != impl.ErrNone {
			t.Errorf("OrderOnLevel(%s, %s, %d) = %d, %d", e.machine, e.group, e.level, got, code)
		}
		fixed := strings.Split(e.fixed, " ")
		if e.fixed == "none" {
			fixed = nil
		}
		if got, code := impl.FixedOfLevel(m, g, e.level); !slices.Equal(got, fixed) || code != impl.ErrNone {
			t.Errorf("FixedOfLevel(%s, %s, %d) = %q, %d", e.machine, e.group, e.level, got, code)
		}
		if got, code := impl.PeriodOfWord(m, g, e.word); got != e.period || code != impl.ErrNone {
			t.Errorf("PeriodOfWord(%s, %s, %s) = %d, %d", e.machine, e.group, e.word, got, code)
		}
	}
}

// TestLevelsHaveNoLimit asks for levels of words whose order is not found, and of the longest words.
func TestLevelsHaveNoLimit(t *testing.T) {
	for _, text := range []string{"2:0a1b,1a0b", "2:1c0b,1b0c,0a1a", "3:0b1c2a,1a2a0c,2b1c0a"} {
		m := parse(t, text)
		for _, g := range [][]int64{{1}, {2}, slices.Repeat([]int64{2}, 39), slices.Repeat([]int64{1, 2}, impl.MaxGroup/2)} {
			for n := range int64(impl.MaxLevel + 1) {
				testLevel(t, m, g, n)
			}
		}
		if _, code := impl.OrderOf(m, []int64{1, 2}); code != impl.ErrLimit {
			t.Errorf("OrderOf(%s, ab): code %d", text, code)
		}
	}
}

// powerOutcome is whether g, taken so many times, is trivial, and the code of the search for this.
func powerOutcome(t *testing.T, known tower, g []int64, times int64) (bool, int64) {
	t.Helper()
	power := slices.Repeat(g, int(times))
	_, trivial, code := known.queueBy(power, true)
	if len(power) <= impl.MaxGroup {
		if got, gotCode := impl.IsTrivialWord(known.machine, power); got != trivial || gotCode != code {
			t.Errorf("IsTrivialWord(%v, %v) = %v, %d", known.machine, power, got, gotCode)
		}
	}
	return trivial, code
}

// TestPowersByOrders is promise 6: powers by an order other than 0 are trivial, and orders on levels
// divide it. No power below the order is trivial, and none at all of a word with the order 0.
func TestPowersByOrders(t *testing.T) {
	powers := 0
	for _, m := range orderMachines(t) {
		known := towerOf(m)
		for _, g := range orderWords(m) {
			order, code := impl.OrderOf(m, g)
			if code != impl.ErrNone || len(g)*int(order) > 400 {
				continue
			}
			for times := int64(1); times < 20 && times != order; times++ {
				if trivial, _ := powerOutcome(t, known, g, times); trivial {
					t.Errorf("OrderOf(%v, %v) = %d, but the power %d is trivial", m, g, order, times)
				}
			}
			for n := range int64(4) {
				if level := must(impl.OrderOnLevel(m, g, n)); order%level != 0 {
					t.Errorf("OrderOf(%v, %v) = %d, and OrderOnLevel %d on the level %d", m, g, order, level, n)
				}
			}
			if order == 0 {
				continue
			}
			trivial, code := powerOutcome(t, known, g, order)
			if code != impl.ErrNone {
				continue
			}
			powers++
			if !trivial {
				t.Errorf("OrderOf(%v, %v) = %d, but that power is not trivial", m, g, order)
			}
		}
	}
	if powers < 1000 {
		t.Errorf("only %d words with orders", powers)
	}
}

// TestOrdersOnLevelsDivide is promise 13: orders on a level divide those on the next one, and the order.
// Periods divide the order on the level.
func TestOrdersOnLevelsDivide(t *testing.T) {
	for _, m := range orderMachines(t) {
		for _, g := range orderWords(m) {
			order, code := impl.OrderOf(m, g)
			// Long words are slow on the deepest levels.
			deepest := int64(impl.MaxLevel)
			if len(g) > 3 {
				deepest = 3
			}
			levels := []int64{}
			for n := range deepest + 1 {
				levels = append(levels, must(impl.OrderOnLevel(m, g, n)))
			}
			for n, level := range levels {
				if n == 0 && level != 1 || n > 0 && level%levels[n-1] != 0 {
					t.Errorf("OrderOnLevel(%v, %v) = %v", m, g, levels)
				}
				if code == impl.ErrNone && order%level != 0 {
					t.Errorf("OrderOf(%v, %v) = %d, OrderOnLevel %v", m, g, order, levels)
				}
			}
			for _, w := range wordsOf(m.Letters, 3) {
				if period := must(impl.PeriodOfWord(m, g, w)); levels[3]%period != 0 {
					t.Errorf("PeriodOfWord(%v, %v, %s) = %d, OrderOnLevel %v", m, g, w, period, levels)
				}
			}
		}
	}
}

// TestProofsLeadBack takes the word with which a proof begins as many times as the factor tells: the
// word of the proof comes back, and the section at it is the word with which the proof begins.
func TestProofsLeadBack(t *testing.T) {
	proofs := 0
	for _, m := range orderMachines(t) {
		r := rankerOf(m)
		for _, g := range orderWords(m) {
			proof, code := impl.InfiniteProof(m, g)
			if code != impl.ErrNone || proof.Factor > 1000 {
				continue
			}
			end := r.orderBy(g)
			power := slices.Repeat(end.begin, int(proof.Factor))
			if proof.Factor < 2 || imageBy(m, power, proof.Word) != proof.Word || !slices.Equal(r.normalBy(sectionBy(m, power, proof.Word)), end.begin) {
				t.Errorf("InfiniteProof(%v, %v) = %v", m, g, proof)
			}
			proofs++
			if end.place > 0 || len(power) > impl.MaxGroup {
				continue
			}
			// The proof begins with the word itself, so that all of it can be asked for.
			power = must(impl.PowerWord(m, must(impl.NormalWord(m, g)), proof.Factor))
			section := must(impl.NormalWord(m, must(impl.SectionOf(m, power, proof.Word))))
			if must(impl.ImageOf(m, power, proof.Word)) != proof.Word || !slices.Equal(section, must(impl.NormalWord(m, g))) {
				t.Errorf("InfiniteProof(%v, %v) = %v, but the section is %v", m, g, proof, section)
			}
			if len(proof.Word) <= impl.MaxLevel && proof.Factor%must(impl.PeriodOfWord(m, g, proof.Word)) != 0 {
				t.Errorf("InfiniteProof(%v, %v) = %v, but its word comes back earlier or later", m, g, proof)
			}
		}
	}
	if proofs < 200 {
		t.Errorf("only %d proofs", proofs)
	}
}
