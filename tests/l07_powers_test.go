package tests

import (
	"fmt"
	"math"
	"testing"

	"loop.example/g01244/impl"
)

// powerActors returns some states of machines of all sizes.
func powerActors(t *testing.T) []actor {
	d := dice(97)
	var list []actor
	for _, m := range productMachines(t) {
		list = append(list, someActors(&d, m, 3)...)
	}
	m := parse(t, swelling)
	return append(list, actorsOf(m)...)
}

// testPowers compares PowerOfState with the definition, for all numbers of factors.
func testPowers(t *testing.T, a actor) {
	t.Helper()
	got, code := impl.PowerOfState(a.machine, a.state, 0)
	expectMachine(t, fmt.Sprintf("PowerOfState(%v, 0)", a), got, code, trivialOf(t, a.machine.Letters), impl.ErrNone)
	for sign, b := range map[int64]actor{1: a, -1: a.inverseBy()} {
		powers, codes := b.powersBy()
		for i, want := range powers {
			n := sign * int64(i+1)
			got, code := impl.PowerOfState(a.machine, a.state, n)
			expectMachine(t, fmt.Sprintf("PowerOfState(%v, %d)", a, n), got, code, want, codes[i])
		}
	}
}

func TestPowerOfState(t *testing.T) {
	for _, a := range powerActors(t) {
		testPowers(t, a)
	}
}

func TestPowerExamples(t *testing.T) {
	examples := []struct {
		machine string
		state   int64
		factors int64
		want    string
	}{
		{adding, 1, 0, "2:0a1a"}, {adding, 1, 1, "2:1b0a,0b1b"}, {adding, 1, 2, "2:0b1b,1c0b,0c1c"}, {adding, 1, 3, "2:1b0c,1d0b,0b1b,0d1d"}, {adding, 1, -1, "2:1a0b,0b1b"},
		{adding, 0, 16, "2:0a1a"}, {adding3, 1, 3, "3:0b1b2b,1c2c0b,0c1c2c"}, {adding3, 0, 0, "3:0a1a2a"}, {"2:1a0a", 0, 16, "2:0a1a"}, {"2:1a0a", 0, -15, "2:1a0a"},
		{"3:1a2a0a", 0, 16, "3:1a2a0a"}, {"3:1a2a0a", 0, -16, "3:2a0a1a"}, {"3:1a2a0a", 0, 15, "3:0a1a2a"}, {grigorchuk, 3, 2, "2:0a1a"}, {grigorchuk, 3, -1, "2:0b1c,1d0d,0d1e,0d1d,0b1a"},
		{hanoi, 2, 15, "3:2b1a0b,0b1b2b"}, {"2:0b1b,0a1a", 1, 5, "2:0a1a"}, {lamplighter, 1, 2, "2:0b1c,1d0a,1b0c,0d1a"},
	}
	for _, e := range examples {
		got, code := impl.PowerOfState(parse(t, e.machine), e.state, e.factors)
		expectMachine(t, fmt.Sprintf("PowerOfState(%s, %d, %d)", e.machine, e.state, e.factors), got, code, parse(t, e.want), impl.ErrNone)
	}
}

// TestPowersAtTheirLimits has numbers of factors at and beside MaxPower, and powers that have too many
// states, or are made from such ones.
func TestPowersAtTheirLimits(t *testing.T) {
	m := parse(t, adding)
	for n, states := range map[int64]int64{impl.MaxPower: 6, -impl.MaxPower: 6, 15: 8, -15: 8} {
		if got, code := impl.PowerOfState(m, 1, n); got.States != states || code != impl.ErrNone {
			t.Errorf("PowerOfState(%s, 1, %d) = %v, %d", adding, n, got, code)
		}
	}
	for _, n := range []int64{impl.MaxPower + 1, -impl.MaxPower - 1} {
		got, code := impl.PowerOfState(m, 1, n)
		expectMachine(t, fmt.Sprintf("PowerOfState(%s, 1, %d)", adding, n), got, code, impl.Machine{}, impl.ErrRange)
	}
	lamps, swell := parse(t, lamplighter), parse(t, swelling)
	for n := int64(1); n <= impl.MaxPower; n++ {
		for _, sign := range []int64{1, -1} {
			got, code := impl.PowerOfState(lamps, 0, sign*n)
			if n <= 4 && (got.States != 1<<n || code != impl.ErrNone) || n > 4 && (got != impl.Machine{} || code != impl.ErrLimit) {
				t.Errorf("PowerOfState(%s, 0, %d) = %v, %d", lamplighter, sign*n, got, code)
			}
			got, code = impl.PowerOfState(swell, 8, sign*n)
			if n <= 3 && (got.States == 0 || code != impl.ErrNone) || n > 3 && (got != impl.Machine{} || code != impl.ErrLimit) {
				t.Errorf("PowerOfState(%s, 8, %d) = %v, %d", swelling, sign*n, got, code)
			}
		}
	}
	// The power with 9 factors is trivial, and that with 6 is the product of those with 3.
	cube := must(impl.PowerOfState(swell, 8, 3))
	six, code := impl.ProductOfStates(cube, 0, cube, 0)
	if six.States != 10 || code != impl.ErrNone {
		t.Errorf("6 factors make %v, %d", six, code)
	}
	nine, code := impl.ProductOfStates(six, 0, cube, 0)
	expectMachine(t, "9 factors", nine, code, trivialOf(t, 3), impl.ErrNone)
}

func TestPowersAddUp(t *testing.T) {
	sums := 0
	for i, a := range powerActors(t) {
		first := int64(i%9) - 4
		for second := int64(-5); second <= 5; second++ {
			one, code := impl.PowerOfState(a.machine, a.state, first)
			other, otherCode := impl.PowerOfState(a.machine, a.state, second)
			sum, sumCode := impl.PowerOfState(a.machine, a.state, first+second)
			if code != impl.ErrNone || otherCode != impl.ErrNone || sumCode != impl.ErrNone {
				continue
			}
			sums++
			got, code := impl.ProductOfStates(one, 0, other, 0)
			expectMachine(t, fmt.Sprintf("%v, %d and %d factors", a, first, second), got, code, sum, impl.ErrNone)
		}
	}
	if sums < 1000 {
		t.Errorf("only %d sums", sums)
	}
}

// TestPowersAreGroupWords compares powers and commutators with the machines of group words.
func TestPowersAreGroupWords(t *testing.T) {
	words := 0
	for i, a := range powerActors(t) {
		n := int64(i%11) - 5
		power, code := impl.PowerOfState(a.machine, a.state, n)
		word, wordCode := impl.MachineOfWord(a.machine, must(impl.PowerWord(a.machine, []int64{a.state + 1}, n)))
		if code == impl.ErrNone && wordCode == impl.ErrNone {
			words++
			expectMachine(t, fmt.Sprintf("PowerOfState(%v, %d)", a, n), power, code, word, wordCode)
		}
		r := int64(i) % a.machine.States
		commutator, code := impl.CommutatorOfStates(a.machine, a.state, r)
		word, wordCode = impl.MachineOfWord(a.machine, must(impl.CommutatorOf(a.machine, []int64{a.state + 1}, []int64{r + 1})))
		if code == impl.ErrNone && wordCode == impl.ErrNone {
			words++
			expectMachine(t, fmt.Sprintf("CommutatorOfStates(%v, %d)", a, r), commutator, code, word, wordCode)
		}
	}
	if words < 300 {
		t.Errorf("only %d words", words)
	}
}

// testCommutator compares CommutatorOfStates with the definition, which it returns.
func testCommutator(t *testing.T, a actor, r int64) (impl.Machine, int64) {
	t.Helper()
	b := actor{a.machine, r}
	want, wantCode := productBy(a.inverseBy(), b.inverseBy(), a, b)
	got, code := impl.CommutatorOfStates(a.machine, a.state, r)
	expectMachine(t, fmt.Sprintf("CommutatorOfStates(%v, %d)", a, r), got, code, want, wantCode)
	return want, wantCode
}

func TestCommutatorOfStates(t *testing.T) {
	codes, others := map[int64]int{}, 0
	for _, a := range powerActors(t) {
		for r := range a.machine.States {
			commutator, code := testCommutator(t, a, r)
			if r == a.state {
				codes[code]++
				if code == impl.ErrNone && commutator != trivialOf(t, a.machine.Letters) {
					t.Errorf("the commutator of %v with itself is %v", a, commutator)
				}
			} else if commutator.States > 1 {
				others++
			}
		}
	}
	// The square of an inverse may have too many states on the way to a trivial commutator.
	if codes[impl.ErrNone] < 50 || codes[impl.ErrLimit] < 10 || others < 200 {
		t.Errorf("commutators of states with themselves: %v, not trivial: %d", codes, others)
	}
}

func TestCommutatorOfStatesExamples(t *testing.T) {
	examples := []struct {
		machine string
		q, r    int64
		want    string
	}{
		{adding, 1, 1, "2:0a1a"}, {adding, 1, 0, "2:0a1a"}, {grigorchuk, 1, 1, "2:0a1a"}, {grigorchuk, 2, 3, "2:0a1a"}, {grigorchuk, 1, 4, "2:0b1b,0c1d,1e0e,0c1f,0e1e,0e1b"},
		{grigorchuk, 1, 2, "2:0b1c,1d0e,1e0d,1f0f,0f1g,0f1f,0d1h,0d1e"}, {hanoi, 1, 2, "3:2b0c1d,2e1b0e,1e0e2c,1b2e0c,0e1e2e"}, {hanoi, 2, 1, "3:1b2c0d,1e0e2b,2b0d1e,2e1d0e,0e1e2e"},
		{lamplighter, 0, 1, "2:0b1b,1c0c,0c1c"}, {"2:0a1a,0a1c,1a0b", 1, 2, "2:0b1c,1d0e,1f0g,1g0h,1i0g,0g1c,0g1g,0g1d,1g0e"}, {"3:1a2a0a,1b0b2b", 0, 1, "3:1a2a0a"}, {"3:1a2a0a,1b0b2b", 1, 0, "3:2a0a1a"},
	}
	for _, e := range examples {
		got, code := impl.CommutatorOfStates(parse(t, e.machine), e.q, e.r)
		expectMachine(t, fmt.Sprintf("CommutatorOfStates(%s, %d, %d)", e.machine, e.q, e.r), got, code, parse(t, e.want), impl.ErrNone)
	}
	// Products of different states of this machine have 9 states, and commutators too many, on the way.
	m := parse(t, aleshin)
	for q := range m.States {
		for r := range m.States {
			if _, code := impl.CommutatorOfStates(m, q, r); (code == impl.ErrNone) != (q == r) {
				t.Errorf("CommutatorOfStates(%s, %d, %d): code %d", aleshin, q, r, code)
			}
		}
	}
}

// orderBy goes through the powers up to the first one that is trivial, or has too many states.
func (a actor) orderBy(t *testing.T, n int64) (int64, int64) {
	powers, codes := a.powersBy()
	for i, power := range powers[:n] {
		if codes[i] != impl.ErrNone {
			return 0, codes[i]
		}
		if power == trivialOf(t, a.machine.Letters) {
			return int64(i) + 1, impl.ErrNone
		}
	}
	return 0, impl.ErrNotFound
}

func TestOrderByPowers(t *testing.T) {
	orders, codes := map[int64]int{}, map[int64]int{}
	for _, a := range powerActors(t) {
		for n := int64(1); n <= impl.MaxPower; n++ {
			want, wantCode := a.orderBy(t, n)
			orders[want]++
			codes[wantCode]++
			if got, code := impl.OrderByPowers(a.machine, a.state, n); got != want || code != wantCode {
				t.Errorf("OrderByPowers(%v, %d) = %d, %d, not %d, %d", a, n, got, code, want, wantCode)
			}
		}
		testOrdersAgree(t, a)
	}
	for _, order := range []int64{1, 2, 3, 4, 6, 8, 9} {
		if orders[order] == 0 {
			t.Errorf("no states with the order %d: %v", order, orders)
		}
	}
	if codes[impl.ErrLimit] < 100 || codes[impl.ErrNotFound] < 100 {
		t.Errorf("codes %v", codes)
	}
}

// testOrdersAgree compares an order with that of the group word.
func testOrdersAgree(t *testing.T, a actor) {
	t.Helper()
	order, code := impl.OrderByPowers(a.machine, a.state, impl.MaxPower)
	want, wantCode := impl.OrderOf(a.machine, []int64{a.state + 1})
	if wantCode != impl.ErrNone || code == impl.ErrLimit {
		return
	}
	if want == 0 || want > impl.MaxPower {
		want, wantCode = 0, impl.ErrNotFound
	}
	if order != want || code != wantCode {
		t.Errorf("OrderByPowers(%v) = %d, %d, not %d, %d", a, order, code, want, wantCode)
	}
}

func TestOrderByPowersExamples(t *testing.T) {
	examples := []struct {
		machine string
		state   int64
		order   int64
	}{
		{adding, 0, 1}, {"2:0b1b,0a1a", 1, 1}, {"2:1a0a", 0, 2}, {grigorchuk, 1, 2}, {grigorchuk, 4, 2}, {"3:1a2a0a", 0, 3}, {"3:0a1a2a,1a2a0a,0b1c2d,2a0a1a", 2, 3},
		{"2:0a1a,1a0a,1a0b", 2, 4}, {"2:0a1a,1a0a,1a0b,1a0c", 3, 8}, {"2:0a1a,1a0a,1a0b,1a0c,1a0d", 4, 16}, {"3:0a1a2a,1a2a0a,1a0b2a", 2, 6}, {"3:0a1a2a,1a2a0a,1a2a0b", 2, 9},
	}
	for _, e := range examples {
		m := parse(t, e.machine)
		for n := int64(1); n <= impl.MaxPower; n++ {
			want, wantCode := e.order, int64(impl.ErrNone)
			if n < e.order {
				want, wantCode = 0, impl.ErrNotFound
			}
			if got, code := impl.OrderByPowers(m, e.state, n); got != want || code != wantCode {
				t.Errorf("OrderByPowers(%s, %d, %d) = %d, %d, not %d, %d", e.machine, e.state, n, got, code, want, wantCode)
			}
		}
	}
	limits := []struct {
		machine string
		state   int64
		last    int64
	}{
		// Of the first two, powers with 9 and 8 factors are trivial, behind others with too many states.
		{swelling, 8, 3}, {"2:0a1a,1a0a,1b0a,1c0c,1d0d,1d0e,0d1a,1e0f,1h0e", 8, 1}, {lamplighter, 1, 4}, {aleshin, 0, 2}, {adding, 1, impl.MaxPower},
	}
	for _, e := range limits {
		m := parse(t, e.machine)
		for n := int64(1); n <= impl.MaxPower; n++ {
			want := int64(impl.ErrNotFound)
			if n > e.last {
				want = impl.ErrLimit
			}
			if got, code := impl.OrderByPowers(m, e.state, n); got != 0 || code != want {
				t.Errorf("OrderByPowers(%s, %d, %d) = %d, %d, not %d", e.machine, e.state, n, got, code, want)
			}
		}
	}
}

// TestProductsWithInverses is promise 16: the product of a state and its inverse is trivial.
func TestProductsWithInverses(t *testing.T) {
	for _, m := range productMachines(t) {
		inverse := must(impl.InverseMachine(m))
		for q := range m.States {
			got, code := impl.ProductOfStates(m, q, inverse, q)
			expectMachine(t, fmt.Sprintf("%v, %d and its inverse", m, q), got, code, trivialOf(t, m.Letters), impl.ErrNone)
			got, code = impl.ProductOfStates(inverse, q, m, q)
			expectMachine(t, fmt.Sprintf("the inverse and %v, %d", m, q), got, code, trivialOf(t, m.Letters), impl.ErrNone)
			other := must(impl.MachineOfState(inverse, q))
			got, code = impl.ProductOfStates(other, 0, m, q)
			expectMachine(t, fmt.Sprintf("the machine of the inverse and %v, %d", m, q), got, code, trivialOf(t, m.Letters), impl.ErrNone)
		}
	}
}

// actionsBy makes the products of all lists of n states, one by one. It returns ErrLimit if one of them, or
// of their beginnings, has too many states.
func actionsBy(m impl.Machine, n int64) (int64, int64) {
	if n == 0 {
		return 1, impl.ErrNone
	}
	met := map[impl.Machine]bool{}
	tuples := [][]actor{{}}
	for range n {
		var longer [][]actor
		for _, tuple := range tuples {
			for _, a := range actorsOf(m) {
				longer = append(longer, append(append([]actor{}, tuple...), a))
			}
		}
		tuples = longer
	}
	for _, tuple := range tuples {
		product, code := productBy(tuple...)
		if code != impl.ErrNone {
			return 0, code
		}
		met[product] = true
	}
	return int64(len(met)), impl.ErrNone
}

func TestDifferentActions(t *testing.T) {
	codes := map[int64]int{}
	for i, m := range productMachines(t) {
		for n := int64(0); n <= impl.MaxPower+1; n++ {
			tuples := math.Pow(float64(m.States), float64(n))
			want, wantCode := int64(0), int64(impl.ErrRange)
			if n <= impl.MaxPower && tuples <= impl.MaxTuples {
				// Some of the longer lists are made only: the definition is slow there.
				if n > 3 && i%4 != 0 {
					continue
				}
				want, wantCode = actionsBy(m, n)
			}
			codes[wantCode]++
			if got, code := impl.DifferentActions(m, n); got != want || code != wantCode {
				t.Errorf("DifferentActions(%v, %d) = %d, %d, not %d, %d", m, n, got, code, want, wantCode)
			}
		}
	}
	if codes[impl.ErrNone] < 200 || codes[impl.ErrLimit] < 50 {
		t.Errorf("codes %v", codes)
	}
}

func TestDifferentActionsExamples(t *testing.T) {
	examples := []struct {
		machine string
		counts  []int64
		behind  int64
	}{
		{"2:0a1a", []int64{1, 1, 1, 1, 1, 1, 1, 1, 1, 1, 1, 1, 1, 1, 1, 1, 1}, impl.ErrRange}, {"3:1a2a0a", []int64{1, 1, 1, 1, 1, 1, 1, 1, 1, 1, 1, 1, 1, 1, 1, 1, 1}, impl.ErrRange},
		{"2:0b1b,0a1a", []int64{1, 1, 1, 1, 1, 1, 1, 1, 1}, impl.ErrRange}, {"2:0a1a,1a0a", []int64{1, 2, 2, 2, 2, 2, 2, 2, 2}, impl.ErrRange}, {"3:1a2a0a,1b0b2b", []int64{1, 2, 4, 6, 6, 6, 6, 6, 6}, impl.ErrRange},
		{adding, []int64{1, 2, 3, 4, 5, 6, 7, 8, 9}, impl.ErrRange}, {lamplighter, []int64{1, 2, 4, 8, 16}, impl.ErrLimit}, {aleshin, []int64{1, 3, 9}, impl.ErrLimit},
		{"2:0a1a,0a1c,1a0b", []int64{1, 3, 7, 15, 31, 63}, impl.ErrRange}, {grigorchuk, []int64{1, 5, 11, 23}, impl.ErrRange}, {"3:0a1a2a,1a2a0a,0b1c2d,2a0a1a", []int64{1, 4, 9, 19, 35}, impl.ErrRange},
		{hanoi, []int64{1, 4, 10, 22, 46}, impl.ErrRange},
	}
	for _, e := range examples {
		m := parse(t, e.machine)
		for n, want := range append(e.counts, 0) {
			wantCode := int64(impl.ErrNone)
			if n == len(e.counts) {
				wantCode = e.behind
			}
			if got, code := impl.DifferentActions(m, int64(n)); got != want || code != wantCode {
				t.Errorf("DifferentActions(%s, %d) = %d, %d, not %d, %d", e.machine, n, got, code, want, wantCode)
			}
		}
	}
	// All lists of two states of 16, and of one; a list of three has too many.
	for _, letters := range []int64{2, 3} {
		for n, want := range []int64{1, 16} {
			if got, code := impl.DifferentActions(chain(letters), int64(n)); got != want || code != impl.ErrNone {
				t.Errorf("DifferentActions of a chain and %d = %d, %d", n, got, code)
			}
		}
		if _, code := impl.DifferentActions(chain(letters), 3); code != impl.ErrRange {
			t.Errorf("DifferentActions of a chain and 3: code %d", code)
		}
	}
}
