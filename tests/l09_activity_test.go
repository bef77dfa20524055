package tests

import (
	"slices"
	"strings"
	"testing"

	"loop.example/g01244/impl"
)

func TestActivityConstants(t *testing.T) {
	if impl.MaxLength != 20 {
		t.Errorf("limit %d", impl.MaxLength)
	}
}

func TestActivityCounts(t *testing.T) {
	for _, m := range activityMachines(t) {
		o := observerOf(m)
		for q := range m.States {
			want := o.countsBy(q, impl.MaxLength)
			for n := range int64(impl.MaxLength + 1) {
				got, code := impl.ActivityCounts(m, q, n)
				expectList(t, "ActivityCounts", got, code, want[:n+1])
			}
		}
	}
}

// TestActivityCountsWords counts words one by one.
func TestActivityCountsWords(t *testing.T) {
	for _, m := range activityMachines(t) {
		o := observerOf(m)
		for q := range m.States {
			for n, count := range must(impl.ActivityCounts(m, q, 4)) {
				if want := o.countBy(q, n); count != want {
					t.Errorf("the activity of %d of %v at the length %d is %d, not %d", q, m, n, count, want)
				}
			}
		}
	}
}

// powers returns the powers of d with the exponents 0 to n.
func powers(d int64, n int) []int64 {
	var list []int64
	for k := range n + 1 {
		list = append(list, powerBy(d, k))
	}
	return list
}

func TestActivityCountsExamples(t *testing.T) {
	zeros := func(n int) []int64 { return make([]int64, n) }
	ones := func(n int) []int64 { return slices.Repeat([]int64{1}, n) }
	examples := []struct {
		machine string
		q, n    int64
		want    []int64
	}{
		{"2:0a1a", 0, 0, zeros(1)}, {"2:0a1a", 0, 20, zeros(21)}, {"3:0a1a2a", 0, 20, zeros(21)},
		// States that are equal to a trivial one.
		{"2:0b1b,0a1a", 0, 3, zeros(4)}, {"2:0b1c,0a1b,0c1c,1a0b", 1, 3, zeros(4)}, {"2:0b1c,0a1b,0c1c,1a0b", 3, 3, []int64{1, 0, 0, 0}},
		{"2:1a0a", 0, 0, []int64{1}}, {"2:1a0a", 0, 20, powers(2, 20)}, {"3:1a0a2a", 0, 20, powers(3, 20)}, {"3:0b1b2b,2a1a0a", 0, 20, powers(3, 20)}, {"2:0a1b,1a0b", 1, 20, powers(2, 20)},
		{"2:0a1a,1a0b", 1, 3, ones(4)}, {"2:0a1a,1a0b", 1, 20, ones(21)}, {"3:0a1a2a,1a2a0b", 1, 20, ones(21)}, {"2:0a1a,1a0a", 1, 4, []int64{1, 0, 0, 0, 0}}, {"2:0a1a,0c1c,1a0a", 1, 4, []int64{1, 2, 0, 0, 0}},
		{"2:0a1a,1a0a,0b1d,0b1e,0a1c", 2, 6, []int64{1, 2, 2, 1, 2, 2, 1}}, {"2:0a1a,1a0a,0b1d,0b1e,0a1c", 4, 6, []int64{1, 1, 2, 2, 1, 2, 2}},
		{"2:0a1a,1a0b,0c1b", 2, 5, []int64{1, 2, 3, 4, 5, 6}}, {"2:0a1a,1a0b,0c1b,0d1c", 3, 5, []int64{1, 2, 4, 7, 11, 16}}, {"2:0a1a,1c0b,0a1b", 1, 7, []int64{1, 2, 3, 5, 8, 13, 21, 34}},
	}
	for _, e := range examples {
		got, code := impl.ActivityCounts(parse(t, e.machine), e.q, e.n)
		expectList(t, "ActivityCounts of "+e.machine, got, code, e.want)
	}
	steps := must(impl.ActivityCounts(stair(3, 16), 0, 20))
	if !slices.Equal(steps, append(powers(3, 14), zeros(6)...)) {
		t.Errorf("activities %v", steps)
	}
}

// depthBy is the document's definition of the depth, for activities up to a length at which those of all finitary
// states are 0.
func depthBy(activities []int64) (int64, int64) {
	for k, activity := range activities {
		if activity == 0 {
			return int64(k), impl.ErrNone
		}
	}
	return 0, impl.ErrState
}

func TestDepthOfState(t *testing.T) {
	depths := map[int64]int{}
	for _, m := range activityMachines(t) {
		o := observerOf(m)
		for q := range m.States {
			want, wantCode := depthBy(o.countsBy(q, impl.MaxLength))
			if got, code := impl.DepthOfState(m, q); got != want || code != wantCode {
				t.Errorf("DepthOfState(%v, %d) = %d, %d, not %d, %d", m, q, got, code, want, wantCode)
			}
			kind := must(impl.KindOfState(m, q))
			if finitary := slices.Equal(kind, []int64{0, 0}); finitary != (wantCode == impl.ErrNone) {
				t.Errorf("the state %d of %v has the kind %v", q, m, kind)
			}
			if wantCode != impl.ErrNone {
				want = -1
			}
			depths[want]++
		}
	}
	for depth := int64(-1); depth <= 3; depth++ {
		if depths[depth] < 5 {
			t.Errorf("depths %v", depths)
		}
	}
}

func TestDepthOfStateExamples(t *testing.T) {
	examples := []struct {
		machine     string
		q           int64
		depth, code int64
	}{
		{"2:0a1a", 0, 0, impl.ErrNone}, {"3:0b1c2a,0a1a2a,0c1b2a", 2, 0, impl.ErrNone}, {"2:0a1a,1a0a", 1, 1, impl.ErrNone}, {"2:0b1b,0a1a,1a0b", 2, 1, impl.ErrNone},
		{"2:0a1a,0c1a,1a0a", 1, 2, impl.ErrNone}, {"2:0a1a,0c1d,1a0a,0c1b", 1, 0, impl.ErrState}, {"2:0a1a,0c1d,1a0a,0c1a", 1, 3, impl.ErrNone},
		{"2:1a0a", 0, 0, impl.ErrState}, {"2:0a1a,1a0b", 0, 0, impl.ErrNone}, {"2:0a1a,1a0b", 1, 0, impl.ErrState}, {"2:0a1a,1a0b,0b1a", 2, 0, impl.ErrState},
		{"2:0a1a,1a0a,0b1d,0b1e,0a1c", 1, 1, impl.ErrNone}, {"2:0a1a,1a0a,0b1d,0b1e,0a1c", 3, 0, impl.ErrState},
	}
	for _, e := range examples {
		if got, code := impl.DepthOfState(parse(t, e.machine), e.q); got != e.depth || code != e.code {
			t.Errorf("DepthOfState(%s, %d) = %d, %d", e.machine, e.q, got, code)
		}
	}
	for _, letters := range []int64{2, 3} {
		for states := int64(2); states <= impl.MaxStates; states++ {
			for q := range states {
				if got, code := impl.DepthOfState(stair(letters, states), q); got != states-1-q || code != impl.ErrNone {
					t.Errorf("the depth of %d of %d states is %d, %d", q, states, got, code)
				}
			}
		}
	}
}

// TestFinitaryStatesEnd is a part of promise 9.
func TestFinitaryStatesEnd(t *testing.T) {
	finitary := 0
	for _, m := range activityMachines(t) {
		for q := range m.States {
			depth, code := impl.DepthOfState(m, q)
			if code != impl.ErrNone {
				continue
			}
			finitary++
			counts := must(impl.ActivityCounts(m, q, impl.MaxLength))
			if slices.Contains(counts[:depth], 0) || slices.Max(counts[depth:]) != 0 {
				t.Errorf("the state %d of %v has the depth %d, and the activities %v", q, m, depth, counts)
			}
			// No word of so many letters, or more, has a section that is not trivial.
			for _, w := range wordsUpTo(m.Letters, 4) {
				if int64(len(w)) >= depth && must(impl.ActiveAt(m, q, w)) {
					t.Errorf("the state %d of %v with the depth %d is active at %s", q, m, depth, w)
				}
			}
		}
	}
	if finitary < 100 {
		t.Errorf("%d states are finitary", finitary)
	}
}

// TestBoundedActivities is a part of the guarantee. With so few states that are not trivial, the lengths of their
// cycles divide 12, and the activities of a state of the kind {1, 0} come back behind 12 letters.
func TestBoundedActivities(t *testing.T) {
	bounded := 0
	for _, m := range activityMachines(t) {
		least := map[int64]bool{}
		o := observerOf(m)
		for q := range m.States {
			least[o.leastBy(q)] = true
		}
		for q := range m.States {
			if len(least) > 5 || !slices.Equal(must(impl.KindOfState(m, q)), []int64{1, 0}) {
				continue
			}
			bounded++
			counts := must(impl.ActivityCounts(m, q, impl.MaxLength))
			if !slices.Equal(counts[5:9], counts[17:]) || slices.Max(counts) != slices.Max(counts[:17]) || slices.Contains(counts, 0) {
				t.Errorf("the state %d of %v has the activities %v", q, m, counts)
			}
		}
	}
	if bounded < 40 {
		t.Errorf("%d states are of the kind {1, 0}", bounded)
	}
}

// TestActivitiesOfInverses is a part of the guarantee.
func TestActivitiesOfInverses(t *testing.T) {
	for _, m := range activityMachines(t) {
		inverse := must(impl.InverseMachine(m))
		for q := range m.States {
			counts := must(impl.ActivityCounts(m, q, impl.MaxLength))
			got, code := impl.ActivityCounts(inverse, q, impl.MaxLength)
			expectList(t, "activities of an inverse", got, code, counts)
			kind := must(impl.KindOfState(m, q))
			got, code = impl.KindOfState(inverse, q)
			expectList(t, "kind of an inverse", got, code, kind)
		}
	}
}

func TestActiveAt(t *testing.T) {
	active := map[bool]int{}
	for _, m := range activityMachines(t) {
		o := observerOf(m)
		for q := range m.States {
			for _, w := range append(wordsUpTo(m.Letters, 3), longWords(m.Letters)...) {
				want := o.activeBy(q, w)
				active[want]++
				if got, code := impl.ActiveAt(m, q, w); got != want || code != impl.ErrNone {
					t.Errorf("ActiveAt(%v, %d, %q) = %v, %d", m, q, w, got, code)
				}
			}
		}
	}
	if active[true] < 1000 || active[false] < 1000 {
		t.Errorf("states are active or not: %v", active)
	}
}

func TestActiveAtExamples(t *testing.T) {
	ones, zeros := strings.Repeat("1", impl.MaxWord), strings.Repeat("0", impl.MaxWord)
	examples := []struct {
		machine string
		q       int64
		w       string
		want    bool
	}{
		{"2:0a1a", 0, "", false}, {"2:0a1a", 0, zeros, false}, {"2:1a0a", 0, "", true}, {"2:1a0a", 0, ones, true}, {"2:0b1b,0a1a", 1, "", false}, {"2:0b1b,0a1a,1b0a", 2, "", true},
		{"2:0b1b,0a1a,1b0a", 2, "0", false}, {"2:0a1a,1a0b", 1, "", true}, {"2:0a1a,1a0b", 1, "10", false}, {"2:0a1a,1a0b", 1, "11", true}, {"2:0a1a,1a0b", 1, ones, true},
		{"2:0a1a,1a0b", 1, ones[1:] + "0", false}, {"2:0a1a,1a0b", 1, "0" + ones[1:], false}, {"2:0a1a,1a0b", 0, ones, false}, {"3:0a1a2a,1a2a0b", 1, "22", true}, {"3:0a1a2a,1a2a0b", 1, "21", false},
		{"2:0a1a,1a0a,0b1d,0b1e,0a1c", 2, "110", false}, {"2:0a1a,1a0a,0b1d,0b1e,0a1c", 2, "1110", true}, {"2:0a1a,1a0a,0b1d,0b1e,0a1c", 1, "", true}, {"2:0a1a,1a0a,0b1d,0b1e,0a1c", 1, "0", false},
	}
	for _, e := range examples {
		if got, code := impl.ActiveAt(parse(t, e.machine), e.q, e.w); got != e.want || code != impl.ErrNone {
			t.Errorf("ActiveAt(%s, %d, %q) = %v, %d", e.machine, e.q, e.w, got, code)
		}
	}
}
