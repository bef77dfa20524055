package tests

import (
	"fmt"
	"testing"

	"loop.example/g01244/impl"
)

// TestPortraitsOfProducts is a part of promise 15: portraits of products are products of portraits.
func TestPortraitsOfProducts(t *testing.T) {
	for _, pair := range manyFactors(t) {
		a, b := pair[0], pair[1]
		product, code := impl.ProductOfStates(a.machine, a.state, b.machine, b.state)
		if code != impl.ErrNone {
			continue
		}
		d := a.machine.Letters
		for n := int64(1); n <= impl.MaxDepth; n++ {
			one, other := must(impl.PortraitOf(a.machine, a.state, n)), must(impl.PortraitOf(b.machine, b.state, n))
			got, code := impl.PortraitOf(product, 0, n)
			expectList(t, fmt.Sprintf("the portrait of the product of %v and %v", a, b), got, code, must(impl.MultiplyPortraits(d, n, one, other)))
		}
	}
}

// TestPortraitsOfStatesAreTold is a part of promise 15: portraits of states are told by the states, whichever
// machine they are states of.
func TestPortraitsOfStatesAreTold(t *testing.T) {
	for _, a := range powerActors(t) {
		d := a.machine.Letters
		single := must(impl.MachineOfState(a.machine, a.state))
		inverse := must(impl.InverseMachine(a.machine))
		for n := int64(1); n <= impl.MaxDepth; n++ {
			portrait := must(impl.PortraitOf(a.machine, a.state, n))
			expectList(t, fmt.Sprintf("the portrait of %v", a), portrait, impl.ErrNone, portraitBy(a.machine, a.state, int(n)))
			got, code := impl.PortraitOf(single, 0, n)
			expectList(t, fmt.Sprintf("the portrait of the machine of %v", a), got, code, portrait)
			got, code = impl.PortraitOf(inverse, a.state, n)
			expectList(t, fmt.Sprintf("the portrait of the inverse of %v", a), got, code, must(impl.InvertPortrait(d, n, portrait)))
			for _, w := range wordsUpTo(d, int(n)) {
				image, code := impl.ActPortrait(d, n, portrait, w)
				if want := must(impl.ActOnWord(a.machine, a.state, w)); image != want || code != impl.ErrNone {
					t.Fatalf("the portrait of %v leads %s to %s, %d, not to %s", a, w, image, code, want)
				}
			}
		}
	}
}

// TestPortraitsOfPowers compares portraits of powers and commutators with products of portraits.
func TestPortraitsOfPowers(t *testing.T) {
	const depth = 3
	for _, a := range powerActors(t) {
		d := a.machine.Letters
		times := func(lists ...[]int64) []int64 {
			product := must(impl.PortraitOf(trivialOf(t, d), 0, depth))
			for _, list := range lists {
				product = must(impl.MultiplyPortraits(d, depth, product, list))
			}
			return product
		}
		one := must(impl.PortraitOf(a.machine, a.state, depth))
		power := times()
		for n := int64(0); n <= impl.MaxPower; n++ {
			for sign, want := range map[int64][]int64{1: power, -1: must(impl.InvertPortrait(d, depth, power))} {
				if m, code := impl.PowerOfState(a.machine, a.state, sign*n); code == impl.ErrNone {
					expectList(t, fmt.Sprintf("%v with %d factors", a, sign*n), must(impl.PortraitOf(m, 0, depth)), code, want)
				}
			}
			power = times(power, one)
		}
		for r := range a.machine.States {
			m, code := impl.CommutatorOfStates(a.machine, a.state, r)
			if code != impl.ErrNone {
				continue
			}
			other := must(impl.PortraitOf(a.machine, r, depth))
			want := times(must(impl.InvertPortrait(d, depth, one)), must(impl.InvertPortrait(d, depth, other)), one, other)
			expectList(t, fmt.Sprintf("the commutator of %v and %d", a, r), must(impl.PortraitOf(m, 0, depth)), code, want)
		}
	}
}
