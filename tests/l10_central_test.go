package tests

import (
	"fmt"
	"testing"

	"loop.example/g01244/impl"
)

func TestCentralInBall(t *testing.T) {
	met := map[string]int{}
	eachGrower(t, func(what string, g grower) {
		for r := range int64(impl.MaxRadius + 1) {
			ball, ballCode := g.ballBy(r)
			want, wantCode := g.centralBy(r)
			got, code := impl.CentralInBall(g.machine, r)
			expectWords(t, fmt.Sprint("CentralInBall ", what, r), got, code, want, wantCode)
			switch {
			case ballCode != impl.ErrNone:
				met["no ball"]++
			case code != impl.ErrNone:
				met["no conjugate"]++
			case len(got) == len(ball):
				met["all"]++
			case len(got) > 1:
				met["some"]++
			default:
				met["one"]++
			}
		}
	})
	for _, what := range []string{"no ball", "no conjugate", "all", "some", "one"} {
		if met[what] < 3 {
			t.Errorf("%d balls have %s: %v", met[what], what, met)
		}
	}
}

func TestCentralInBallExamples(t *testing.T) {
	examples := []struct {
		machine string
		r       int64
		want    []string
	}{
		{"2:0a1a", 0, []string{""}},
		{"2:0a1a", 5, []string{""}},
		{adding, 0, []string{""}},
		{adding, 2, []string{"", "b", "B", "bb", "BB"}},
		{"2:0b1b,1a0a", 5, []string{"", "a", "b", "ab"}},
		{"3:1a2a0a", 5, []string{"", "a", "A"}},
		{square, 3, []string{""}},
		{square, 4, []string{"", "bcbc"}},
		{square, 5, []string{"", "bcbc"}},
		{triangle, 5, []string{""}},
		{grigorchuk, 5, []string{""}},
		{hanoi, 3, []string{""}},
	}
	for _, e := range examples {
		m := parse(t, e.machine)
		got, code := impl.CentralInBall(m, e.r)
		expectWords(t, fmt.Sprint("CentralInBall ", e.machine, e.r), got, code, groupsOf(m, e.want...), impl.ErrNone)
	}
}

func TestCentralGivenUp(t *testing.T) {
	for _, text := range endlessConjugates {
		m := parse(t, text)
		radius := int64(0)
		for r := range int64(impl.MaxRadius + 1) {
			if _, code := impl.BallOf(m, r); code == impl.ErrNone {
				radius = r
			}
		}
		if list, code := impl.CentralInBall(m, radius); list != nil || code != impl.ErrLimit {
			t.Errorf("CentralInBall(%s, %d) = %v, %d", text, radius, list, code)
		}
	}
}

func TestIsAbelianGroup(t *testing.T) {
	met := map[string]int{}
	eachGrower(t, func(what string, g grower) {
		want, wantCode := g.abelianBy()
		got, code := impl.IsAbelianGroup(g.machine)
		if got != want || code != wantCode {
			t.Errorf("IsAbelianGroup %s = %v, %d, not %v, %d", what, got, code, want, wantCode)
		}
		met[fmt.Sprintf("%v, code %d, %v", got, code, len(g.generators) > 1)]++
	})
	for _, what := range []string{"true, code 0, false", "true, code 0, true", "false, code 0, true", "false, code 3, true", "false, code 3, false"} {
		if met[what] == 0 {
			t.Errorf("no group has %s: %v", what, met)
		}
	}
}

func TestIsAbelianGroupExamples(t *testing.T) {
	examples := map[string]bool{
		adding: true, adding3: true, "2:0a1a": true, "3:0a1a2a": true, "2:0b1a,0a1b": true, "2:1a0a": true, "3:1a2a0a": true,
		"2:0b1b,1a0a": true, "2:0a1a,1a0b,0c1c,1d0c": true, "3:0a1a2a,1a2a0a,2a0a1a": true,
		square: false, triangle: false, grigorchuk: false, hanoi: false, lamplighter: false, aleshin: false, gupta: false,
	}
	for text, want := range examples {
		if got, code := impl.IsAbelianGroup(parse(t, text)); got != want || code != impl.ErrNone {
			t.Errorf("IsAbelianGroup(%s) = %v, %d", text, got, code)
		}
	}
	// Generators are looked at in order, up to what is different, or given up.
	for _, text := range endlessPairs {
		if got, code := impl.IsAbelianGroup(parse(t, text)); got || code != impl.ErrLimit {
			t.Errorf("IsAbelianGroup(%s) = %v, %d", text, got, code)
		}
	}
	for _, text := range endlessLaterPairs {
		if got, code := impl.IsAbelianGroup(parse(t, text)); got || code != impl.ErrNone {
			t.Errorf("IsAbelianGroup(%s) = %v, %d", text, got, code)
		}
	}
}

// TestCentralOfAbelianGroups compares functions with each other: in abelian groups all words are central, and in
// others not all generators are.
func TestCentralOfAbelianGroups(t *testing.T) {
	compared := 0
	eachGrower(t, func(what string, g grower) {
		abelian, code := impl.IsAbelianGroup(g.machine)
		if code != impl.ErrNone {
			return
		}
		for r := range int64(impl.MaxRadius + 1) {
			ball, code := impl.BallOf(g.machine, r)
			central, centralCode := impl.CentralInBall(g.machine, r)
			if code != impl.ErrNone || centralCode != impl.ErrNone {
				return
			}
			compared++
			if all := len(central) == len(ball); all != (abelian || r == 0) {
				t.Errorf("%s: %d words of the ball of %d, which has %d, are central; the group is abelian: %v", what, len(central), r, len(ball), abelian)
			}
			if len(central) == 0 || len(central[0]) != 0 {
				t.Errorf("%s: the empty word is not the first central one: %v", what, central)
			}
		}
	})
	if compared < 200 {
		t.Errorf("%d balls were compared", compared)
	}
}
