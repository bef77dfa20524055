package tests

import (
	"fmt"
	"math/big"
	"strings"
	"testing"

	"loop.example/g01244/impl"
)

// mostDigits is the greatest number of letters of words with numbers.
const mostDigits = 30

// numberWords returns all short words, and some of each length up to 30 letters, those with the least and
// the greatest numbers among them.
func numberWords(d int64) []string {
	list := wordsUpTo(d, 7)
	for _, w := range longWords(d) {
		list = append(list, w[:min(len(w), mostDigits)])
	}
	greatest := string(rune('0' + d - 1))
	for n := 8; n <= mostDigits; n++ {
		list = append(list, strings.Repeat("0", n), strings.Repeat(greatest, n))
		list = append(list, strings.Repeat("0", n-1)+greatest, greatest+strings.Repeat("0", n-1), strings.Repeat(greatest, n-1)+"0")
	}
	return list
}

func TestNumbersOfDigits(t *testing.T) {
	for d := int64(2); d <= 3; d++ {
		for _, w := range numberWords(d) {
			want := digitsBy(d, w)
			if number, code := impl.NumberOfDigits(d, w); number != want || code != impl.ErrNone {
				t.Errorf("NumberOfDigits(%d, %s) = %d, %d, not %d", d, w, number, code, want)
			}
			if back, code := impl.DigitsOfNumber(d, int64(len(w)), want); back != w || code != impl.ErrNone {
				t.Errorf("DigitsOfNumber(%d, %d, %d) = %s, %d, not %s", d, len(w), want, back, code, w)
			}
		}
	}
}

func TestNumberExamples(t *testing.T) {
	examples := []struct {
		d      int64
		w      string
		number int64
	}{
		{2, "011", 6}, {2, "", 0}, {3, "", 0}, {2, "0", 0}, {2, "1", 1}, {3, "2", 2}, {2, "10", 1}, {2, "01", 2}, {3, "12", 7}, {3, "21", 5}, {3, "011", 12},
		{3, "0002", 54}, {2, "0000000000", 0}, {2, "1000000000", 1}, {2, "0000000001", 512},
		{2, strings.Repeat("1", mostDigits), 1073741823}, {2, strings.Repeat("0", 29) + "1", 536870912},
		{3, strings.Repeat("2", mostDigits), 205891132094648}, {3, strings.Repeat("0", 29) + "2", 137260754729766}, {3, "2" + strings.Repeat("0", 29), 2},
	}
	for _, e := range examples {
		if number, code := impl.NumberOfDigits(e.d, e.w); number != e.number || code != impl.ErrNone {
			t.Errorf("NumberOfDigits(%d, %s) = %d, %d, not %d", e.d, e.w, number, code, e.number)
		}
		if w, code := impl.DigitsOfNumber(e.d, int64(len(e.w)), e.number); w != e.w || code != impl.ErrNone {
			t.Errorf("DigitsOfNumber(%d, %d, %d) = %s, %d, not %s", e.d, len(e.w), e.number, w, code, e.w)
		}
	}
}

// TestNumbersAreSums adds the letters up without any limit of size.
func TestNumbersAreSums(t *testing.T) {
	for d := int64(2); d <= 3; d++ {
		for _, w := range numberWords(d) {
			sum, power := new(big.Int), big.NewInt(1)
			for i := range len(w) {
				sum.Add(sum, new(big.Int).Mul(power, big.NewInt(int64(w[i]-'0'))))
				power.Mul(power, big.NewInt(d))
			}
			if number := must(impl.NumberOfDigits(d, w)); sum.Cmp(big.NewInt(number)) != 0 {
				t.Errorf("NumberOfDigits(%d, %s) = %d, not %v", d, w, number, sum)
			}
		}
	}
}

// addsOne checks that the state 1 of an adding machine adds 1 to the number of w, and that its inverse
// takes it away.
func addsOne(t *testing.T, m impl.Machine, w string) {
	t.Helper()
	size := powerBy(m.Letters, len(w))
	number := must(impl.NumberOfDigits(m.Letters, w))
	next := must(impl.ActOnWord(m, 1, w))
	if got := must(impl.NumberOfDigits(m.Letters, next)); got != (number+1)%size {
		t.Errorf("%d letters: %s is led to %s, from %d to %d", m.Letters, w, next, number, got)
	}
	last := must(impl.ImageOf(m, []int64{-2}, w))
	if got := must(impl.NumberOfDigits(m.Letters, last)); got != (number+size-1)%size {
		t.Errorf("%d letters: %s is led back to %s, from %d to %d", m.Letters, w, last, number, got)
	}
	if stays := must(impl.ActOnWord(m, 0, w)); stays != w {
		t.Errorf("%d letters: the state 0 leads %s to %s", m.Letters, w, stays)
	}
}

// TestAddingMachinesAddOne is promise 14. Sums of which nothing is left but a carry behind the word are 0.
func TestAddingMachinesAddOne(t *testing.T) {
	for d, name := range map[int64]string{2: "adding", 3: "adding3"} {
		m := must(impl.KnownMachine(name))
		if m.Letters != d {
			t.Errorf("%s has %d letters", name, m.Letters)
		}
		for _, w := range numberWords(d) {
			addsOne(t, m, w)
		}
		for n := 1; n <= mostDigits; n++ {
			full, empty := strings.Repeat(string(rune('0'+d-1)), n), strings.Repeat("0", n)
			if w := must(impl.ActOnWord(m, 1, full)); w != empty {
				t.Errorf("%s leads %s to %s", name, full, w)
			}
			if w := must(impl.DigitsOfNumber(d, int64(n), powerBy(d, n)-1)); w != full {
				t.Errorf("DigitsOfNumber: the last word of %d letters is %s", n, w)
			}
		}
	}
}

// TestAddingMachinesCount goes from number to number.
func TestAddingMachinesCount(t *testing.T) {
	for _, name := range []string{"adding", "adding3"} {
		m := must(impl.KnownMachine(name))
		for n := range 7 {
			w := strings.Repeat("0", n)
			size := powerBy(m.Letters, n)
			for k := range size + 3 {
				if want := must(impl.DigitsOfNumber(m.Letters, int64(n), k%size)); w != want {
					t.Errorf("%s: number %d of %d letters is %s, not %s", name, k, n, w, want)
				}
				w = must(impl.ActOnWord(m, 1, w))
			}
		}
	}
}

// TestSumsOfNumbers adds numbers by powers of the state 1.
func TestSumsOfNumbers(t *testing.T) {
	r := dice(82)
	for _, name := range []string{"adding", "adding3"} {
		m := must(impl.KnownMachine(name))
		for n := 1; n <= mostDigits; n++ {
			size := powerBy(m.Letters, n)
			for k := int64(-impl.MaxGroup); k <= impl.MaxGroup; k += 7 {
				number := r.roll(min(size, 1<<31-1))
				w := must(impl.DigitsOfNumber(m.Letters, int64(n), number))
				sum := must(impl.ImageOf(m, must(impl.PowerWord(m, []int64{2}, k)), w))
				want := ((number+k)%size + size) % size
				if got := must(impl.NumberOfDigits(m.Letters, sum)); got != want {
					t.Errorf("%s: %s and %d are %s, so %d, not %d", name, w, k, sum, got, want)
				}
			}
		}
	}
}

// digitOutcomes calls the function of a word and a number of letters of words.
func digitOutcomes(d int64, w string) map[string]outcome {
	return map[string]outcome{"NumberOfDigits": numberOutcome(impl.NumberOfDigits(d, w))}
}

// countOutcomes calls the function of a number, and of numbers of letters.
func countOutcomes(d int64, n int64, k int64) map[string]outcome {
	w, code := impl.DigitsOfNumber(d, n, k)
	return map[string]outcome{"DigitsOfNumber": {code, w == ""}}
}

var farLetters = append([]int64{-3, -2, -1, 0, 1, 4, 5, 10, 50}, farNumbers...)

// TestDigitErrorsOfLetters has numbers of letters that no machine has: they come ahead of words.
func TestDigitErrorsOfLetters(t *testing.T) {
	for _, d := range farLetters {
		what := fmt.Sprintf("%d letters", d)
		for _, w := range []string{"", "0", "01", "012", "3", "x", " ", strings.Repeat("0", 31), strings.Repeat("0", 41), strings.Repeat("x", 41)} {
			allAre(t, what, digitOutcomes(d, w), groupRange)
		}
		for _, n := range []int64{0, 1, 30, 31, -1} {
			for _, k := range []int64{0, 1, -1} {
				allAre(t, what, countOutcomes(d, n, k), groupRange)
			}
		}
	}
}

// TestDigitErrorsOfWords has words that are none, which come ahead of long ones.
func TestDigitErrorsOfWords(t *testing.T) {
	for d := int64(2); d <= 3; d++ {
		next := string(rune('0' + d))
		list := badWords(d)
		for n := range 41 {
			zeros := strings.Repeat("0", n)
			list = append(list, zeros+next, next+zeros, zeros+"9", "x"+zeros, zeros+"-", zeros[:n/2]+next+zeros[n/2:])
		}
		list = append(list, strings.Repeat("0", 41), strings.Repeat("1", 42), strings.Repeat("0", 50), strings.Repeat(next, 30), strings.Repeat(next, 31))
		for _, w := range list {
			allAre(t, fmt.Sprintf("%d letters, %.45s", d, w), digitOutcomes(d, w), groupInvalid)
		}
		for n := mostDigits + 1; n <= impl.MaxWord; n++ {
			for _, letter := range []string{"0", "1", string(rune('0' + d - 1))} {
				allAre(t, fmt.Sprintf("%d letters, %d times %s", d, n, letter), digitOutcomes(d, strings.Repeat(letter, n)), groupRange)
			}
		}
	}
	// The letter 2 is one of 3 letters alone.
	if number, code := impl.NumberOfDigits(3, "2"); number != 2 || code != impl.ErrNone {
		t.Errorf("NumberOfDigits(3, 2) = %d, %d", number, code)
	}
	if number, code := impl.NumberOfDigits(2, "2"); number != 0 || code != impl.ErrInvalid {
		t.Errorf("NumberOfDigits(2, 2) = %d, %d", number, code)
	}
}

// TestDigitErrorsOfNumbers has numbers of letters and numbers beside their ranges.
func TestDigitErrorsOfNumbers(t *testing.T) {
	for d := int64(2); d <= 3; d++ {
		for _, n := range append([]int64{-2, -1, mostDigits + 1, mostDigits + 2, impl.MaxWord, 63, 64}, farNumbers...) {
			for _, k := range append([]int64{-1, 0, 1}, farNumbers...) {
				allAre(t, fmt.Sprintf("%d letters, word of %d, number %d", d, n, k), countOutcomes(d, n, k), groupRange)
			}
		}
		for n := range mostDigits + 1 {
			size := powerBy(d, n)
			for _, k := range append([]int64{-2, -1, size, size + 1, -size}, farNumbers...) {
				if k < 0 || k >= size {
					allAre(t, fmt.Sprintf("%d letters, word of %d, number %d", d, n, k), countOutcomes(d, int64(n), k), groupRange)
				}
			}
			for _, k := range []int64{0, size - 1} {
				if w, code := impl.DigitsOfNumber(d, int64(n), k); len(w) != n || code != impl.ErrNone {
					t.Errorf("DigitsOfNumber(%d, %d, %d) = %q, %d", d, n, k, w, code)
				}
			}
		}
	}
}
