package tests

import (
	"fmt"
	"slices"
	"testing"

	"loop.example/g01244/impl"
)

const gupta = "3:0a1a2a,1a2a0a,0b1c2d,2a0a1a"

func TestRelationsOf(t *testing.T) {
	met := map[string]int{}
	eachGrower(t, func(what string, g grower) {
		for l := int64(1); l <= 4; l++ {
			want, wantCode := g.relationsBy(l)
			got, code := impl.RelationsOf(g.machine, l)
			expectWords(t, fmt.Sprint("RelationsOf ", what, l), got, code, want, wantCode)
			met[fmt.Sprintf("length %d, code %d, %v", l, code, len(got) > 0)]++
			met[fmt.Sprintf("%d generators, code %d", len(g.generators), code)]++
		}
	})
	kinds := []string{"length 1, code 0, false", "length 4, code 3, false", "8 generators, code 0", "9 generators, code 2", "0 generators, code 0"}
	for l := 2; l <= 4; l++ {
		kinds = append(kinds, fmt.Sprintf("length %d, code 0, true", l), fmt.Sprintf("length %d, code 0, false", l))
	}
	for _, what := range kinds {
		if met[what] == 0 {
			t.Errorf("nothing has %s: %v", what, met)
		}
	}
}

func TestRelationsOfExamples(t *testing.T) {
	examples := []struct {
		machine string
		want    [4][]string
	}{
		{"2:0a1a", [4][]string{}},
		{adding, [4][]string{}},
		// Words of a generator that is its own inverse have it as a neighbour of itself.
		{"2:0a1a,1a0a", [4][]string{}},
		{"3:1a2a0a", [4][]string{2: {"aaa", "AAA"}}},
		{"2:0b1b,1a0a", [4][]string{3: {"abab", "baba"}}},
		{square, [4][]string{}},
		{triangle, [4][]string{2: {"bbb", "BBB"}, 3: {"bcbc", "BcBc", "cbcb", "cBcB"}}},
		{grigorchuk, [4][]string{2: {"cde", "ced", "dce", "dec", "ecd", "edc"}, 3: {"cdcd", "cece", "dcdc", "dede", "ecec", "eded"}}},
		{hanoi, [4][]string{}},
		{gupta, [4][]string{
			1: {"bd", "BD", "db", "DB"},
			2: {"bbb", "bbD", "bDb", "bDD", "BBB", "BBd", "BdB", "Bdd", "ccc", "CCC", "dBB", "dBd", "ddB", "ddd", "Dbb", "DbD", "DDb", "DDD"},
			3: {
				"bbdd", "bdbd", "bdBD", "bddb", "bDBd", "BBDD", "BdbD", "BDbd", "BDBD", "BDDB",
				"dbbd", "dbdb", "dbDB", "dBDb", "ddbb", "DbdB", "DBBD", "DBdb", "DBDB", "DDBB",
			},
		}},
	}
	for _, e := range examples {
		m := parse(t, e.machine)
		for i, want := range e.want {
			got, code := impl.RelationsOf(m, int64(i)+1)
			expectWords(t, fmt.Sprint("RelationsOf ", e.machine, i+1), got, code, groupsOf(m, want...), impl.ErrNone)
		}
	}
}

// TestRelationsOfManyGenerators has machines of 8 generators, and of more.
func TestRelationsOfManyGenerators(t *testing.T) {
	// Eight states that are their own inverses, and the same with one more, also with equal ones between them.
	eight := "2:0a1a,1a0a,0b1a,0c1a,0d1a,0e1a,0f1a,0g1a,0h1a"
	nine := eight + ",0i1a"
	for text, want := range map[string]int64{
		eight: impl.ErrNone, eight + ",0a1a": impl.ErrNone, eight + ",0h1a": impl.ErrNone, eight + ",0h1a,0i1j,0j1a,0a1a": impl.ErrRange,
		nine: impl.ErrRange, "2:0a1a,1a0a,0b1a,0c1a,0d1a,0e1a,0f1a,0g1a,1a0i": impl.ErrRange, "2:0a1a,1a0a,0b1a,0c1a,0d1a,0e1a,0f1a,1a0h": impl.ErrNone,
		"2:0a1a,1a0b,0b1b,0c1a,0d1a": impl.ErrNone, "2:0a1a,1a0b,0b1b,0c1a,0d1a,0e1a": impl.ErrRange,
	} {
		m := parse(t, text)
		generators := must(impl.GeneratorsOf(m))
		if (len(generators) > 8) != (want == impl.ErrRange) {
			t.Errorf("%s has the generators %v", text, generators)
		}
		for l := int64(1); l <= 4; l++ {
			if list, code := impl.RelationsOf(m, l); code != want || code != impl.ErrNone && list != nil {
				t.Errorf("RelationsOf(%s, %d) = %v, %d", text, l, list, code)
			}
		}
	}
}

func TestRelationsGivenUp(t *testing.T) {
	for _, text := range endlessRelations {
		m := parse(t, text)
		for l := int64(1); l <= 3; l++ {
			expectWords(t, fmt.Sprint("RelationsOf ", text, l), must(impl.RelationsOf(m, l)), impl.ErrNone, nil, impl.ErrNone)
		}
		allAre(t, text, relationOutcomes(m, 4), outcome{impl.ErrLimit, true})
	}
}

// turned returns a word of generators with its first number behind the others, and its inverse.
func (g grower) turned(word []int64) [][]int64 {
	back := opposite(word)
	for i, s := range back {
		if !slices.Contains(g.generators, s) {
			back[i] = -s
		}
	}
	return [][]int64{slices.Concat(word[1:], word[:1]), back}
}

// TestRelationsAreTrivial checks the guarantee, and that a relation that is turned or inverted is one, too.
func TestRelationsAreTrivial(t *testing.T) {
	relations := 0
	eachGrower(t, func(what string, g grower) {
		for l := int64(1); l <= 4; l++ {
			list, code := impl.RelationsOf(g.machine, l)
			if code != impl.ErrNone {
				continue
			}
			for _, word := range list {
				relations++
				if !must(impl.IsTrivialWord(g.machine, word)) || int64(len(word)) != l {
					t.Errorf("%s has the relation %v of the length %d", what, word, l)
				}
				for _, other := range g.turned(word) {
					if !slices.ContainsFunc(list, func(r []int64) bool { return slices.Equal(r, other) }) {
						t.Errorf("%s has the relation %v, but not %v", what, word, other)
					}
				}
			}
		}
	})
	if relations < 1000 {
		t.Errorf("there are %d relations", relations)
	}
}
