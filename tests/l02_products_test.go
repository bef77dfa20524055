package tests

import (
	"slices"
	"testing"

	"loop.example/g01244/impl"
)

// opposite returns the opposite numbers in the reverse order.
func opposite(g []int64) []int64 {
	back := slices.Clone(g)
	slices.Reverse(back)
	for i := range back {
		back[i] = -back[i]
	}
	return back
}

func TestInverseWord(t *testing.T) {
	for _, m := range someMachines(t) {
		for _, g := range manyGroups(m) {
			if got, code := impl.InverseWord(m, g); !slices.Equal(got, opposite(g)) || code != impl.ErrNone {
				t.Errorf("InverseWord(%v, %v) = %v, %d", m, g, got, code)
			}
		}
	}
}

func TestMultiplyWordsAndCommutators(t *testing.T) {
	for _, m := range someMachines(t) {
		groups := manyGroups(m)
		for i, g := range groups {
			h := groups[(i*7+3)%len(groups)]
			product, commutator := slices.Concat(g, h), slices.Concat(opposite(g), opposite(h), g, h)
			wantProduct, wantCommutator := int64(impl.ErrNone), int64(impl.ErrNone)
			if len(product) > impl.MaxGroup {
				product, wantProduct = nil, impl.ErrLimit
			}
			if len(commutator) > impl.MaxGroup {
				commutator, wantCommutator = nil, impl.ErrLimit
			}
			if got, code := impl.MultiplyWords(m, g, h); !slices.Equal(got, product) || code != wantProduct {
				t.Errorf("MultiplyWords(%v, %v, %v) = %v, %d", m, g, h, got, code)
			}
			if got, code := impl.CommutatorOf(m, g, h); !slices.Equal(got, commutator) || code != wantCommutator {
				t.Errorf("CommutatorOf(%v, %v, %v) = %v, %d", m, g, h, got, code)
			}
		}
	}
}

// TestProductLengths joins words of all lengths.
func TestProductLengths(t *testing.T) {
	m := parse(t, "2:0a1a,1a0b")
	for i := range impl.MaxGroup + 1 {
		for j := range impl.MaxGroup + 1 {
			g, h := slices.Repeat([]int64{2}, i), slices.Repeat([]int64{-1}, j)
			both, code := impl.MultiplyWords(m, g, h)
			if i+j <= impl.MaxGroup {
				sameCode(t, "MultiplyWords", code, impl.ErrNone)
			} else {
				sameCode(t, "MultiplyWords", code, impl.ErrLimit)
			}
			if code == impl.ErrNone && !slices.Equal(both, slices.Concat(g, h)) || code != impl.ErrNone && len(both) != 0 {
				t.Errorf("MultiplyWords of %d and %d numbers = %v", i, j, both)
			}
			four, code := impl.CommutatorOf(m, g, h)
			if 2*i+2*j <= impl.MaxGroup {
				sameCode(t, "CommutatorOf", code, impl.ErrNone)
			} else {
				sameCode(t, "CommutatorOf", code, impl.ErrLimit)
			}
			if code == impl.ErrNone && !slices.Equal(four, slices.Concat(opposite(g), opposite(h), g, h)) || code != impl.ErrNone && len(four) != 0 {
				t.Errorf("CommutatorOf %d and %d numbers = %v", i, j, four)
			}
		}
	}
}

func TestPowerWord(t *testing.T) {
	m := parse(t, "3:0a1a2a,1a2a0a,0b1c2d,2a0a1a")
	for _, g := range [][]int64{nil, {3}, {-3}, {1, 2}, {1, -1}, {4, -2, 3}, slices.Repeat([]int64{2, -3}, 10), slices.Repeat([]int64{3}, 21), slices.Repeat([]int64{-4}, 40)} {
		for k := -40; k <= 40; k++ {
			base := g
			if k < 0 {
				base = opposite(g)
			}
			want, wantCode := slices.Repeat(base, max(k, -k)), int64(impl.ErrNone)
			if len(want) > impl.MaxGroup {
				want, wantCode = nil, impl.ErrLimit
			}
			if got, code := impl.PowerWord(m, g, int64(k)); !slices.Equal(got, want) || code != wantCode {
				t.Errorf("PowerWord(%v, %d) = %v, %d", g, k, got, code)
			}
		}
		for _, k := range append([]int64{-42, -41, 41, 42, 256, -256}, farNumbers...) {
			if got, code := impl.PowerWord(m, g, k); len(got) != 0 || code != impl.ErrRange {
				t.Errorf("PowerWord(%v, %d) = %v, %d", g, k, got, code)
			}
		}
	}
}

func TestPowersAct(t *testing.T) {
	m := parse(t, "2:0a1a,1a0b")
	if got := must(impl.ImageOf(m, must(impl.PowerWord(m, []int64{2}, 40)), "000000")); got != "000101" {
		t.Errorf("40 is %q", got)
	}
	if got := must(impl.ImageOf(m, must(impl.PowerWord(m, []int64{2}, -40)), "000101")); got != "000000" {
		t.Errorf("0 is %q", got)
	}
	if got := must(impl.PowerWord(m, []int64{2, 1}, -2)); !slices.Equal(got, []int64{-1, -2, -1, -2}) {
		t.Errorf("PowerWord = %v", got)
	}
}

func TestCommutatorExamples(t *testing.T) {
	m := parse(t, "2:0a1b,1a0b")
	if got := must(impl.CommutatorOf(m, []int64{-1, 2}, []int64{-1, -1, 2, 1})); !slices.Equal(got, []int64{-2, 1, -1, -2, 1, 1, -1, 2, -1, -1, 2, 1}) {
		t.Errorf("CommutatorOf = %v", got)
	}
	if got := must(impl.CommutatorOf(m, nil, nil)); len(got) != 0 {
		t.Errorf("CommutatorOf empty words = %v", got)
	}
}
