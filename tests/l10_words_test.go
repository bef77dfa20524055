package tests

import (
	"fmt"
	"slices"
	"testing"

	"loop.example/g01244/impl"
)

// lookedFor returns group words of the machine whose lengths are up to MaxRadius, greater, and unknown.
func (g grower) lookedFor() [][]int64 {
	d := dice(17)
	list := [][]int64{nil, {1}, {-1}, {g.machine.States}, {-g.machine.States}}
	for n := int64(2); n <= 6; n++ {
		list = append(list, randomGroup(&d, g.machine, n))
	}
	list = append(list, randomGroup(&d, g.machine, 12), randomGroup(&d, g.machine, impl.MaxGroup))
	for _, sphere := range g.spheres {
		if len(sphere) == 0 {
			continue
		}
		first, last := sphere[0], sphere[len(sphere)-1]
		h := randomGroup(&d, g.machine, 3)
		list = append(list, slices.Concat(h, opposite(h), last), slices.Concat(last, first), opposite(last))
	}
	if len(g.generators) > 0 {
		list = append(list, slices.Repeat(g.generators[:1], impl.MaxRadius), slices.Repeat(g.generators[:1], impl.MaxRadius+1))
	}
	return list
}

func TestLengths(t *testing.T) {
	met := map[string]int{}
	eachGrower(t, func(what string, g grower) {
		for _, word := range g.lookedFor() {
			for r := range int64(impl.MaxRadius + 1) {
				want, wantCode := g.shortestBy(word, r)
				got, code := impl.ShortestWord(g.machine, word, r)
				if !slices.Equal(got, want) || code != wantCode {
					t.Errorf("ShortestWord %s %v, %d = %v, %d, not %v, %d", what, word, r, got, code, want, wantCode)
				}
				length, code := impl.LengthOfWord(g.machine, word, r)
				if length != int64(len(want)) || code != wantCode {
					t.Errorf("LengthOfWord %s %v, %d = %d, %d, not %d, %d", what, word, r, length, code, len(want), wantCode)
				}
				met[fmt.Sprint("code ", code)]++
				if code == impl.ErrNone {
					met[fmt.Sprint("length ", length)]++
					if g.sphereCode(r) != impl.ErrNone {
						met["found ahead of a limit"]++
					}
				} else if _, none := g.machineBy(word); none == impl.ErrLimit && g.sphereCode(r) == impl.ErrNone {
					met["without a machine"]++
				} else if none == impl.ErrLimit && g.sphereCode(0) == impl.ErrNone {
					met["without a machine, behind a limit"]++
				}
			}
		}
	})
	kinds := []string{"code 0", "code 3", "code 4", "length 0", "length 1", "length 2", "length 3", "length 4", "length 5"}
	for _, what := range append(kinds, "found ahead of a limit", "without a machine", "without a machine, behind a limit") {
		if met[what] < 5 {
			t.Errorf("%d words have %s: %v", met[what], what, met)
		}
	}
}

func TestShortestWordExamples(t *testing.T) {
	examples := []struct {
		machine string
		word    string
		r       int64
		want    string
		code    int64
	}{
		{adding, "", 0, "", impl.ErrNone},
		{adding, "aAa", 0, "", impl.ErrNone},
		{adding, "bB", 5, "", impl.ErrNone},
		{adding, "b", 0, "", impl.ErrNotFound},
		{adding, "b", 1, "b", impl.ErrNone},
		{adding, "bbabBb", 3, "bbb", impl.ErrNone},
		{adding, "bbbbb", 5, "bbbbb", impl.ErrNone},
		{adding, "bbbbb", 4, "", impl.ErrNotFound},
		{adding, "BBBBBB", 5, "", impl.ErrNotFound},
		{"2:0a1a", "a", 0, "", impl.ErrNone},
		{"2:0a1a", "AAa", 5, "", impl.ErrNone},
		{"2:1a0a", "A", 1, "a", impl.ErrNone},
		{"2:1a0a", "aaa", 5, "a", impl.ErrNone},
		{"3:1a2a0a", "aa", 1, "A", impl.ErrNone},
		// Of the words of 4 generators, two are equal to each other, and of those of 5, none is new.
		{square, "cbcb", 4, "bcbc", impl.ErrNone},
		{square, "cbcb", 5, "bcbc", impl.ErrNone},
		{square, "cbcb", 3, "", impl.ErrNotFound},
		{square, "bcbcb", 3, "cbc", impl.ErrNone},
		{square, "BC", 2, "bc", impl.ErrNone},
		{triangle, "cb", 2, "Bc", impl.ErrNone},
		{triangle, "bbc", 2, "Bc", impl.ErrNone},
		{triangle, "cb", 1, "", impl.ErrNotFound},
		{grigorchuk, "cd", 1, "e", impl.ErrNone},
		{grigorchuk, "bebe", 4, "bebe", impl.ErrNone},
		{grigorchuk, "ebeb", 4, "bebe", impl.ErrNone},
		{"3:0a1a2a,1a2a0a,0b1c2d,2a0a1a", "d", 1, "B", impl.ErrNone},
		{"3:0a1a2a,1a2a0a,0b1c2d,2a0a1a", "D", 1, "b", impl.ErrNone},
		{"2:0a1a,1a0b,0c1c,1d0c", "dd", 2, "BB", impl.ErrNone},
	}
	for _, e := range examples {
		m := parse(t, e.machine)
		want := groupOf(m, e.want)
		got, code := impl.ShortestWord(m, groupOf(m, e.word), e.r)
		length, lengthCode := impl.LengthOfWord(m, groupOf(m, e.word), e.r)
		if !slices.Equal(got, want) || code != e.code || length != int64(len(want)) || lengthCode != e.code {
			t.Errorf("%s, %q, %d: %v, %d, and %d, %d, not %v, %d", e.machine, e.word, e.r, got, code, length, lengthCode, want, e.code)
		}
	}
}

// TestLengthsBesideLimits has a machine with a ball of 200 words: what is in it is found at greater radii, too,
// at which the ball cannot be found, and what is not, is not.
func TestLengthsBesideLimits(t *testing.T) {
	for text, r := range ballOf200 {
		if r == impl.MaxRadius {
			continue
		}
		m := parse(t, text)
		ball := must(impl.BallOf(m, r))
		last := ball[len(ball)-1]
		for radius := range int64(impl.MaxRadius + 1) {
			want := outcome{impl.ErrNone, false}
			if radius < r {
				want = outcome{impl.ErrNotFound, true}
			}
			allAre(t, fmt.Sprint(text, last, radius), lengthOfOutcomes(m, last, radius), want)
		}
		var far []int64
		for _, s := range must(impl.GeneratorsOf(m)) {
			longer := slices.Concat(last, []int64{s})
			if machine, code := impl.MachineOfWord(m, longer); code == impl.ErrNone && !slices.ContainsFunc(ball, func(word []int64) bool { return must(impl.MachineOfWord(m, word)) == machine }) {
				far = longer
			}
		}
		if far == nil {
			t.Errorf("%s: all words are in the ball of %d", text, r)
		}
		allAre(t, fmt.Sprint(text, far, r), lengthOfOutcomes(m, far, r), outcome{impl.ErrNotFound, true})
		allAre(t, fmt.Sprint(text, far, r+1), lengthOfOutcomes(m, far, r+1), outcome{impl.ErrLimit, true})
	}
	// The first new word of the sphere that is given up is not found.
	for text, r := range ballOf201 {
		m := parse(t, text)
		ball := must(impl.BallOf(m, r-1))
		first := slices.Concat(ball[len(must(impl.BallOf(m, r-2)))], []int64{must(impl.GeneratorsOf(m))[0]})
		code := int64(impl.ErrLimit)
		if slices.ContainsFunc(ball, func(word []int64) bool { return must(impl.AreEqualWords(m, word, first)) }) {
			code = impl.ErrNone
		}
		allAre(t, fmt.Sprint(text, first, r), lengthOfOutcomes(m, first, r), outcome{code, code != impl.ErrNone})
	}
}

// TestPromise10OfShortestWords: shortest words are equal to the words, and are words of generators of the length
// that is told.
func TestPromise10OfShortestWords(t *testing.T) {
	checked := 0
	eachGrower(t, func(what string, g grower) {
		for _, word := range g.lookedFor() {
			for _, r := range []int64{1, 3, impl.MaxRadius} {
				short, code := impl.ShortestWord(g.machine, word, r)
				if code != impl.ErrNone {
					continue
				}
				checked++
				if same, code := impl.AreEqualWords(g.machine, short, word); !same && code == impl.ErrNone {
					t.Errorf("%s: %v is the shortest word of %v", what, short, word)
				}
				for _, s := range short {
					if !slices.Contains(g.generators, s) {
						t.Errorf("%s: the shortest word %v has no generator %d", what, short, s)
					}
				}
				if int64(len(short)) > r || int64(len(short)) != must(impl.LengthOfWord(g.machine, word, r)) {
					t.Errorf("%s: %v is the shortest word of %v up to %d", what, short, word, r)
				}
			}
		}
	})
	if checked < 2000 {
		t.Errorf("%d words were checked", checked)
	}
}
