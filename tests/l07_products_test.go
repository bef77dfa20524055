package tests

import (
	"fmt"
	"strings"
	"testing"

	"loop.example/g01244/impl"
)

func TestProductConstants(t *testing.T) {
	if impl.MaxPower != 16 || impl.MaxTuples != 300 {
		t.Errorf("limits %d, %d", impl.MaxPower, impl.MaxTuples)
	}
}

func TestMachineOfState(t *testing.T) {
	d := dice(79)
	for _, m := range productMachines(t) {
		for _, a := range actorsOf(m) {
			what := fmt.Sprintf("MachineOfState(%v)", a)
			got, code := impl.MachineOfState(m, a.state)
			expectMachine(t, what, got, code, a.machineBy(), impl.ErrNone)
			again, code := impl.MachineOfState(got, 0)
			expectMachine(t, what+", again", again, code, got, impl.ErrNone)
			other := a.renumbered(&d)
			again, code = impl.MachineOfState(other.machine, other.state)
			expectMachine(t, what+", renumbered", again, code, got, impl.ErrNone)
			if !impl.IsMachine(got) || len(must(impl.TrivialStates(got))) > 1 {
				t.Errorf("%s = %v", what, got)
			}
			if word, code := impl.MachineOfWord(m, []int64{a.state + 1}); code == impl.ErrNone {
				expectMachine(t, what+", as a group word", word, code, got, impl.ErrNone)
			}
		}
	}
}

func TestMachineOfStateExamples(t *testing.T) {
	examples := []struct {
		machine string
		state   int64
		want    string
	}{
		{adding, 0, "2:0a1a"}, {adding, 1, "2:1b0a,0b1b"}, {adding3, 1, "3:1b2b0a,0b1b2b"}, {"2:1a0a", 0, "2:1a0a"}, {"3:1a2a0a", 0, "3:1a2a0a"},
		{grigorchuk, 1, "2:1b0b,0b1b"}, {grigorchuk, 4, "2:0b1c,0b1b,0d1e,1b0b,0d1a"}, {hanoi, 3, "3:0a2b1b,0b1b2b"}, {lamplighter, 1, "2:1b0a,0b1a"},
		// The state 1 is trivial, as the state 0 is; the state 3 goes on to the states 2 and 0 alone.
		{"2:0b1b,0a1a", 1, "2:0a1a"}, {"2:0b1b,0a1a,1a0c,0c1b", 3, "2:0b1c,1c0b,0c1c"}, {"2:0b1b,0a1a,1a0c,0c1b", 2, "2:1b0a,0b1b"},
		// The states 1 and 2 are equal to each other, and so are 3 and 4.
		{"3:0b1c2d,1a2a0e,1a2a0d,2b0c1a,2c0b1a", 0, "3:0b1b2c,1a2a0c,2b0b1a"}, {"3:0b1c2d,1a2a0e,1a2a0d,2b0c1a,2c0b1a", 4, "3:2b0b1c,1c2c0a,0b1b2a"},
		// Letters ahead of the others give states that come next their numbers.
		{"2:0d1c,1b0b,1c0d,0b1c", 0, "2:0b1c,0d1c,1c0b,1d0d"}, {"3:0c1a2b,1a0a2a,0b1b2b", 0, "3:0b1a2c,0c1c2c,1a0a2a"},
	}
	for _, e := range examples {
		got, code := impl.MachineOfState(parse(t, e.machine), e.state)
		expectMachine(t, fmt.Sprintf("MachineOfState(%s, %d)", e.machine, e.state), got, code, parse(t, e.want), impl.ErrNone)
	}
	for letters := int64(2); letters <= 3; letters++ {
		// All 16 states of a chain are different, and the first one reaches all of them, in order.
		got, code := impl.MachineOfState(chain(letters), 0)
		expectMachine(t, "MachineOfState of a chain", got, code, chain(letters), impl.ErrNone)
		got, code = impl.MachineOfState(chain(letters), 14)
		want := []string{2: "2:0b1b,1b0b", 3: "3:0b1b2b,1b0b2b"}[letters]
		expectMachine(t, "MachineOfState behind a chain", got, code, parse(t, want), impl.ErrNone)
	}
}

// testAcross compares AreEqualAcross with the definition, in both directions.
func testAcross(t *testing.T, a, b actor) bool {
	t.Helper()
	want := a.equalBy(b)
	for _, pair := range [][2]actor{{a, b}, {b, a}} {
		if got, code := impl.AreEqualAcross(pair[0].machine, pair[0].state, pair[1].machine, pair[1].state); got != want || code != impl.ErrNone {
			t.Errorf("AreEqualAcross(%v, %v) = %v, %d, not %v", pair[0], pair[1], got, code, want)
		}
	}
	if same := must(impl.MachineOfState(a.machine, a.state)) == must(impl.MachineOfState(b.machine, b.state)); same != want {
		t.Errorf("the machines of %v and of %v: %v", a, b, same)
	}
	return want
}

func TestAreEqualAcross(t *testing.T) {
	d := dice(83)
	for _, m := range productMachines(t) {
		minimal, numbers, _ := impl.MinimalMachine(m)
		for _, a := range actorsOf(m) {
			if other := a.renumbered(&d); !testAcross(t, a, other) {
				t.Errorf("%v and %v are different", a, other)
			}
			if other := (actor{minimal, numbers[a.state]}); !testAcross(t, a, other) {
				t.Errorf("%v and %v are different", a, other)
			}
			testAcross(t, a, a.inverseBy())
			r := d.roll(m.States)
			if got, code := impl.AreEqualStates(m, a.state, r); got != testAcross(t, a, actor{m, r}) || code != impl.ErrNone {
				t.Errorf("AreEqualStates(%v, %d) = %v, %d", a, r, got, code)
			}
		}
	}
	equal := 0
	for _, pair := range manyFactors(t) {
		if testAcross(t, pair[0], pair[1]) {
			equal++
		}
	}
	if equal < 100 {
		t.Errorf("only %d equal states", equal)
	}
}

func TestAreEqualAcrossExamples(t *testing.T) {
	examples := []struct {
		m    string
		q    int64
		k    string
		r    int64
		want bool
	}{
		{adding, 0, "2:0b1b,0a1a", 1, true}, {adding, 0, grigorchuk, 0, true}, {adding, 1, grigorchuk, 1, false}, {adding, 1, "2:0c1b,1a0b,0a1a", 1, false},
		{adding, 1, "2:0b1c,0c1a,1b0c,0a1a", 2, false}, {adding, 1, "2:0c1c,1a0b,0a1a", 1, true}, {lamplighter, 0, lamplighter, 1, false}, {lamplighter, 0, "2:1a0b,0a1b", 1, false},
		{lamplighter, 0, "2:1b0a,0b1a", 1, true}, {adding3, 0, hanoi, 0, true}, {hanoi, 1, "3:1b0b2a,0b1b2b", 0, true}, {hanoi, 1, "3:1b0b2b,0b1b2b", 0, false},
	}
	for _, e := range examples {
		a, b := actor{parse(t, e.m), e.q}, actor{parse(t, e.k), e.r}
		if testAcross(t, a, b) != e.want {
			t.Errorf("%s, %d and %s, %d: %v", e.m, e.q, e.k, e.r, !e.want)
		}
	}
	// Only words of 16 letters tell these states apart.
	m := chain(2)
	other := m
	other.Out[15] = [3]byte{0, 1}
	if testAcross(t, actor{m, 0}, actor{other, 0}) || !testAcross(t, actor{m, 0}, actor{m, 0}) {
		t.Error("chains are told apart wrongly")
	}
}

// testProduct compares ProductOfStates with the definition, which it returns.
func testProduct(t *testing.T, a, b actor) (impl.Machine, int64) {
	t.Helper()
	want, wantCode := a.timesBy(b)
	got, code := impl.ProductOfStates(a.machine, a.state, b.machine, b.state)
	expectMachine(t, fmt.Sprintf("ProductOfStates(%v, %v)", a, b), got, code, want, wantCode)
	return want, wantCode
}

func TestProductOfStates(t *testing.T) {
	sizes := map[int64]int{}
	for _, pair := range manyFactors(t) {
		product, _ := testProduct(t, pair[0], pair[1])
		sizes[product.States]++
	}
	// Size 0 is that of products with too many states.
	for size := range int64(impl.MaxStates + 1) {
		if sizes[size] == 0 {
			t.Errorf("no products with %d states: %v", size, sizes)
		}
	}
}

func TestProductExamples(t *testing.T) {
	examples := []struct {
		m    string
		q    int64
		k    string
		r    int64
		want string
	}{
		{adding, 1, adding, 1, "2:0b1b,1c0b,0c1c"}, {adding, 0, adding, 1, "2:1b0a,0b1b"}, {adding, 1, adding, 0, "2:1b0a,0b1b"}, {adding, 0, adding, 0, "2:0a1a"},
		{"2:1a0a", 0, "2:1a0a", 0, "2:0a1a"}, {"3:1a2a0a", 0, "3:1a2a0a", 0, "3:2a0a1a"}, {"3:1a0a2a", 0, "3:1a2a0a", 0, "3:2a1a0a"}, {"3:1a2a0a", 0, "3:1a0a2a", 0, "3:0a2a1a"},
		{grigorchuk, 2, grigorchuk, 3, "2:0b1c,0b1b,0d1e,1b0b,0d1a"}, {grigorchuk, 1, grigorchuk, 2, "2:1b0c,0c1d,1e0e,0e1f,0e1e,0c1b"}, {grigorchuk, 2, grigorchuk, 1, "2:1b0c,1d0d,0b1e,0d1d,0d1f,0b1c"},
		{hanoi, 1, hanoi, 2, "3:1b2c0d,2c1b0c,0c1c2c,1c0c2d"}, {hanoi, 2, hanoi, 1, "3:2b0c1d,1d0d2b,2d1c0d,0d1d2d"}, {lamplighter, 0, lamplighter, 1, "2:1b0c,0b1c,0a1d,1a0d"},
		{lamplighter, 1, lamplighter, 0, "2:1b0a,1c0d,0c1d,0b1a"}, {adding, 1, "2:1a0a", 0, "2:0b1a,1b0b"}, {"2:1a0a", 0, adding, 1, "2:0a1b,1b0b"},
	}
	for _, e := range examples {
		a, b := actor{parse(t, e.m), e.q}, actor{parse(t, e.k), e.r}
		testProduct(t, a, b)
		got, code := impl.ProductOfStates(a.machine, a.state, b.machine, b.state)
		expectMachine(t, fmt.Sprintf("ProductOfStates(%s, %d, %s, %d)", e.m, e.q, e.k, e.r), got, code, parse(t, e.want), impl.ErrNone)
	}
}

// TestProductLimit has products with just MaxStates states, and with one more.
func TestProductLimit(t *testing.T) {
	examples := []struct {
		m    string
		q    int64
		k    string
		r    int64
		fits bool
	}{
		// These have 16 and 17 states.
		{"2:1a0c,0b1e,0c1d,1d0e,1a0a", 1, "2:1a0c,0b1e,0c1d,1d0e,1a0a", 1, true}, {"3:0c2d1d,1e0b2a,1c0d2a,2e0e1e,1a0a2c", 0, "3:0c2d1d,1e0b2a,1c0d2a,2e0e1e,1a0a2c", 0, true},
		{"2:1b0c,0d1e,1f0g,0f1g,1d0e,1h0i,0c1b,0h1i,1c0b", 0, "2:1b0c,1c0b,0c1b", 0, false},
		{"3:0b1c2b,0b1b2b,0b1b2d,0e1a2b,0f1f2f,0b1b2g,0h1i2b,2b0j1j,0b1f2b,0b1b2k,0l1m2b,1b2b0j,2b1j0b", 0, "3:0a1a2a,2a1e0a,1d2a0e,0a1a2a,0a1a2f,0c1b2a", 1, false},
		{swelling, 8, "3:0b1c2d,0e1f2g,0g1e2f,0f1g2e,0g1h2g,0i1j2i,1h2h0h,1j2j0j,0h1h2h,0j1j2j", 0, false},
	}
	for _, e := range examples {
		a, b := actor{parse(t, e.m), e.q}, actor{parse(t, e.k), e.r}
		product, code := testProduct(t, a, b)
		if (code == impl.ErrNone) != e.fits || e.fits && product.States != impl.MaxStates {
			t.Errorf("%s, %d and %s, %d: %d states, code %d", e.m, e.q, e.k, e.r, product.States, code)
		}
	}
}

// TestProductOfAllPairs has two machines of 16 states of which all 256 pairs are reached: a circle that all
// letters go round, and one that the letter 0 alone does. Pairs are different if both circles exchange
// letters, and if none does, all of them are equal.
func TestProductOfAllPairs(t *testing.T) {
	ring, slow := impl.Machine{Letters: 2, States: 16}, impl.Machine{Letters: 2, States: 16}
	for q := range 16 {
		ring.Out[q], slow.Out[q] = stayTwo, stayTwo
		ring.Next[q] = [3]byte{byte((q + 1) % 16), byte((q + 1) % 16)}
		slow.Next[q] = [3]byte{byte((q + 1) % 16), byte(q)}
	}
	product, code := testProduct(t, actor{ring, 3}, actor{slow, 5})
	expectMachine(t, "idle circles", product, code, parse(t, "2:0a1a"), impl.ErrNone)
	busy, busySlow := ring, slow
	busy.Out[0], busySlow.Out[0] = swapTwo, swapTwo
	for _, pair := range [][2]impl.Machine{{busy, slow}, {ring, busySlow}, {slow, busy}, {busySlow, ring}} {
		if product, _ = testProduct(t, actor{pair[0], 0}, actor{pair[1], 0}); product.States != impl.MaxStates {
			t.Errorf("a busy and an idle circle make %d states", product.States)
		}
	}
	for _, pair := range [][2]impl.Machine{{busy, busySlow}, {busySlow, busy}} {
		if _, code = testProduct(t, actor{pair[0], 0}, actor{pair[1], 0}); code != impl.ErrLimit {
			t.Errorf("two busy circles: code %d", code)
		}
	}
}

// TestProductsActOneAfterTheOther is a part of promise 7.
func TestProductsActOneAfterTheOther(t *testing.T) {
	products := 0
	for _, pair := range manyFactors(t) {
		a, b := pair[0], pair[1]
		product, code := impl.ProductOfStates(a.machine, a.state, b.machine, b.state)
		if code != impl.ErrNone {
			continue
		}
		products++
		for _, w := range append(wordsUpTo(a.machine.Letters, 4), longWords(a.machine.Letters)...) {
			middle := must(impl.ActOnWord(a.machine, a.state, w))
			want := must(impl.ActOnWord(b.machine, b.state, middle))
			if got, code := impl.ActOnWord(product, 0, w); got != want || code != impl.ErrNone {
				t.Fatalf("the product of %v and %v leads %s to %s, %d, not to %s", a, b, w, got, code, want)
			}
		}
	}
	if products < 500 {
		t.Errorf("only %d products", products)
	}
}

func TestProductsAreAssociative(t *testing.T) {
	d := dice(89)
	triples := 0
	for _, pair := range manyFactors(t) {
		a, b := pair[0], pair[1]
		c := someActors(&d, b.machine, 1)[0]
		left, code := impl.ProductOfStates(a.machine, a.state, b.machine, b.state)
		right, otherCode := impl.ProductOfStates(b.machine, b.state, c.machine, c.state)
		if code != impl.ErrNone || otherCode != impl.ErrNone {
			continue
		}
		left, code = impl.ProductOfStates(left, 0, c.machine, c.state)
		right, otherCode = impl.ProductOfStates(a.machine, a.state, right, 0)
		expectMachine(t, fmt.Sprintf("the product of %v, %v and %v", a, b, c), left, code, right, otherCode)
		if code == impl.ErrNone {
			triples++
		}
	}
	if triples < 300 {
		t.Errorf("only %d triples", triples)
	}
}

// TestProductsOfAdders adds numbers: powers of adding states are told by how often they add 1.
func TestProductsOfAdders(t *testing.T) {
	for _, text := range []string{adding, adding3} {
		m := parse(t, text)
		seven := must(impl.PowerOfState(m, 1, 7))
		back := must(impl.PowerOfState(m, 1, -5))
		expectMachine(t, "7 less 5", must(impl.ProductOfStates(seven, 0, back, 0)), impl.ErrNone, must(impl.PowerOfState(m, 1, 2)), impl.ErrNone)
		w := strings.Repeat("0", 6)
		for range 7 {
			w = must(impl.ActOnWord(m, 1, w))
		}
		if got := must(impl.ActOnWord(seven, 0, "000000")); got != w {
			t.Errorf("%s: 7 is %s, not %s", text, got, w)
		}
	}
}
