package tests

import (
	"strings"
	"testing"

	"loop.example/g01244/impl"
)

// act returns the word to which q leads w, where the test knows that there is one.
func act(t *testing.T, m impl.Machine, q int64, w string) string {
	t.Helper()
	image, code := impl.ActOnWord(m, q, w)
	if code != impl.ErrNone {
		t.Fatalf("ActOnWord(%v, %d, %q): code %d", m, q, w, code)
	}
	return image
}

func TestActOnWordAndSections(t *testing.T) {
	for _, m := range manyMachines() {
		words := append(wordsUpTo(m.Letters, 3), longWords(m.Letters)...)
		for q := range m.States {
			for _, w := range words {
				if v := act(t, m, q, w); v != led(m, q, w) {
					t.Errorf("ActOnWord(%v, %d, %q) = %q", m, q, w, v)
				}
				if r, code := impl.SectionAt(m, q, w); r != sectionOf(m, q, w) || code != impl.ErrNone {
					t.Errorf("SectionAt(%v, %d, %q) = %d, %d", m, q, w, r, code)
				}
			}
		}
	}
}

func TestActOnWordExamples(t *testing.T) {
	adder := parse(t, "2:0a1a,1a0b")
	for w, want := range map[string]string{"": "", "0": "1", "1": "0", "011": "111", "1101": "0011", "1111": "0000"} {
		if v := act(t, adder, 1, w); v != want {
			t.Errorf("ActOnWord(adder, 1, %q) = %q", w, v)
		}
		if v := act(t, adder, 0, w); v != w {
			t.Errorf("ActOnWord(adder, 0, %q) = %q", w, v)
		}
	}
	gupta := parse(t, "3:0a1a2a,1a2a0a,0b1c2d,2a0a1a")
	if v := act(t, gupta, 2, "10220"); v != "10020" {
		t.Errorf("ActOnWord(gupta, 2, 10220) = %q", v)
	}
	if v := act(t, gupta, 2, "02210"); v != "00210" {
		t.Errorf("ActOnWord(gupta, 2, 02210) = %q", v)
	}
}

// TestCommonBeginnings checks that the beginning of a word alone decides the beginning of what it is
// led to, and that the section leads the rest.
func TestCommonBeginnings(t *testing.T) {
	for _, m := range manyMachines() {
		for q := range m.States {
			for _, w := range longWords(m.Letters) {
				whole := act(t, m, q, w)
				for _, cut := range []int{0, len(w) / 3, len(w) / 2, len(w)} {
					r, code := impl.SectionAt(m, q, w[:cut])
					sameCode(t, "SectionAt", code, impl.ErrNone)
					if act(t, m, q, w[:cut])+act(t, m, r, w[cut:]) != whole {
						t.Errorf("%v, %d: %q is cut at %d", m, q, w, cut)
					}
				}
			}
		}
	}
}

func TestInverseMachine(t *testing.T) {
	for _, m := range manyMachines() {
		back, code := impl.InverseMachine(m)
		if code != impl.ErrNone || !impl.IsMachine(back) || back.States != m.States || back.Letters != m.Letters {
			t.Fatalf("InverseMachine(%v) = %v, %d", m, back, code)
		}
		for q := range m.States {
			for _, w := range append(wordsUpTo(m.Letters, 3), longWords(m.Letters)...) {
				if v := act(t, back, q, act(t, m, q, w)); v != w {
					t.Errorf("%v: the inverse leads %q to %q", m, w, v)
				}
				if v := act(t, m, q, act(t, back, q, w)); v != w {
					t.Errorf("%v: the inverse is led from %q to %q", m, w, v)
				}
			}
		}
		if twice, code := impl.InverseMachine(back); twice != m || code != impl.ErrNone {
			t.Errorf("InverseMachine of the inverse of %v = %v, %d", m, twice, code)
		}
	}
}

func TestInverseMachineExamples(t *testing.T) {
	examples := map[string]string{
		"2:0a1a,1a0b":                "2:0a1a,1b0a",
		"2:0a1b,1a0b":                "2:0a1b,1b0a",
		"3:0a1a2a,1a2b0c,2c0b1a":     "3:0a1a2a,2c0a1b,1b2a0c",
		"3:0a1b2c,2a1b0c,0b2c1a":     "3:0a1b2c,2c1b0a,0b2a1c",
		"2:0a1a,0a1c,1a0b":           "2:0a1a,0a1c,1b0a",
		"3:1a2a0a":                   "3:2a0a1a",
		"2:1b0a," + "0a1b":           "2:1a0b,0a1b",
		"2:1c0b,1b0c,0a1a":           "2:1b0c,1c0b,0a1a",
		"2:" + chainText():           "2:" + chainText(),
		"3:0a2b1c,1a0b2c,0c2b1a":     "3:0a2c1b,1b0a2c,0c2a1b",
		"3:2a0a1a,1c2b0a,2b0c1a":     "3:1a2a0a,2a0c1b,1c2a0b",
		"3:2b0b1b,1b2b0b":            "3:1b2b0b,2b0b1b",
		"2:1a0b,1b0a,0a1b,0b1a":      "2:1b0a,1a0b,0a1b,0b1a",
		"3:0b1b2b,0a1a2a":            "3:0b1b2b,0a1a2a",
		"2:0b1b,0c1c,1a0c":           "2:0b1b,0c1c,1c0a",
		"2:0a1a,1a0a,0b1d,0b1e,0a1c": "2:0a1a,1a0a,0b1d,0b1e,0a1c",
	}
	for text, want := range examples {
		back, code := impl.InverseMachine(parse(t, text))
		if got, _ := impl.MachineText(back); got != want || code != impl.ErrNone {
			t.Errorf("InverseMachine of %q = %q, %d, not %q", text, got, code, want)
		}
	}
}

// chainText returns the states of a machine of 16 states that is its own inverse.
func chainText() string {
	var parts []string
	for q := range 15 {
		next := string(rune('b' + q))
		parts = append(parts, "0"+next+"1"+next)
	}
	return strings.Join(append(parts, "1p0p"), ",")
}

func TestWordsAreLedOneToOne(t *testing.T) {
	for _, m := range manyMachines() {
		for q := range m.States {
			met := map[string]bool{}
			for _, w := range wordsOf(m.Letters, 4) {
				met[act(t, m, q, w)] = true
			}
			if len(met) != len(wordsOf(m.Letters, 4)) {
				t.Errorf("%v: the state %d leads words to %d words", m, q, len(met))
			}
		}
	}
}

// walkCodes calls the functions that lead a word by a state, which have the same errors up to the
// length of the word, and returns their codes.
func walkCodes(t *testing.T, m impl.Machine, q int64, w string) [3]int64 {
	t.Helper()
	v, a := impl.ActOnWord(m, q, w)
	r, b := impl.SectionAt(m, q, w)
	o, c := impl.OrbitOfWord(m, q, w)
	if a != impl.ErrNone && v != "" || b != impl.ErrNone && r != 0 || c != impl.ErrNone && len(o) != 0 {
		t.Errorf("%v, %d, %q: %q, %d, %v beside errors", m, q, w, v, r, o)
	}
	return [3]int64{a, b, c}
}

func TestWalkErrors(t *testing.T) {
	invalid := [3]int64{impl.ErrInvalid, impl.ErrInvalid, impl.ErrInvalid}
	outside := [3]int64{impl.ErrRange, impl.ErrRange, impl.ErrRange}
	for name, m := range badMachines() {
		for _, q := range append([]int64{-1, 0, 16}, farNumbers...) {
			for _, w := range []string{"", "0", "x", "000000"} {
				if got := walkCodes(t, m, q, w); got != invalid {
					t.Errorf("%s, %d, %q: %v", name, q, w, got)
				}
			}
		}
	}
	for _, text := range machineTexts {
		m := parse(t, text)
		for _, w := range badWords(m.Letters) {
			for _, q := range append([]int64{-1, 0, m.States - 1, m.States}, farNumbers...) {
				if got := walkCodes(t, m, q, w); got != invalid {
					t.Errorf("%s, %d, %.45q: %v", text, q, w, got)
				}
			}
		}
		for _, q := range append([]int64{-1, m.States, 16, 17, 256}, farNumbers...) {
			for _, w := range []string{"", "0", "00000", "000000", strings.Repeat("0", 40)} {
				if got := walkCodes(t, m, q, w); got != outside {
					t.Errorf("%s, %d, %q: %v", text, q, w, got)
				}
			}
		}
		if got := walkCodes(t, m, m.States-1, strings.Repeat("1", 40)); got != [3]int64{impl.ErrNone, impl.ErrNone, impl.ErrLimit} {
			t.Errorf("%s: %v", text, got)
		}
	}
}

func TestInverseMachineErrors(t *testing.T) {
	for name, m := range badMachines() {
		if back, code := impl.InverseMachine(m); back != (impl.Machine{}) || code != impl.ErrInvalid {
			t.Errorf("%s: InverseMachine = %v, %d", name, back, code)
		}
	}
}
