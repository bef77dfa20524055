package impl

import "strings"

// Error codes of all chapters.
const (
	ErrNone = iota
	ErrInvalid
	ErrRange
	ErrLimit
	ErrNotFound
	ErrState
	ErrSyntax
)

// Limits of chapter 1.
const (
	MaxStates = 16
	MaxWord   = 40
	MaxLevel  = 5
)

// Machine is described in chapter 1.
type Machine struct {
	Letters int64
	States  int64
	Next    [16][3]byte
	Out     [16][3]byte
}

// row is the part of a machine that belongs to one state.
type row struct {
	out  [3]byte
	next [3]byte
}

// IsMachine reports whether m is a machine.
func IsMachine(m Machine) bool {
	if !isAlphabet(m.Letters) || m.States < 1 || m.States > MaxStates {
		return false
	}
	for q := range m.States {
		if !isStateRow(m, q) {
			return false
		}
	}
	return m == usedPart(m)
}

// isAlphabet reports whether machines may have d letters.
func isAlphabet(d int64) bool {
	return d == 2 || d == 3
}

// isStateRow reports whether the entries of q are states, and letters that differ from each other.
func isStateRow(m Machine, q int64) bool {
	var met [3]bool
	for x := range m.Letters {
		out, next := int64(m.Out[q][x]), int64(m.Next[q][x])
		if next >= m.States || out >= m.Letters || met[out] {
			return false
		}
		met[out] = true
	}
	return true
}

// usedPart returns m with 0 in all entries that belong to no state or no letter of it.
func usedPart(m Machine) Machine {
	used := Machine{Letters: m.Letters, States: m.States}
	for q := range m.States {
		copy(used.Out[q][:m.Letters], m.Out[q][:])
		copy(used.Next[q][:m.Letters], m.Next[q][:])
	}
	return used
}

// MachineText returns the text of m, and ErrNone.
func MachineText(m Machine) (string, int64) {
	if !IsMachine(m) {
		return "", ErrInvalid
	}
	text := []byte{'0' + byte(m.Letters), ':'}
	for q := range m.States {
		if q > 0 {
			text = append(text, ',')
		}
		for x := range m.Letters {
			text = append(text, '0'+m.Out[q][x], 'a'+m.Next[q][x])
		}
	}
	return string(text), ErrNone
}

// ParseMachine returns the machine with a text, and ErrNone. Errors: ErrSyntax if there is none.
// (No other errors are returned.)
func ParseMachine(text string) (Machine, int64) {
	if len(text) < 2 || text[1] != ':' || !isAlphabet(int64(text[0])-'0') {
		return Machine{}, ErrSyntax
	}
	// One part more than there may be states is enough to refuse a text, however long it is.
	parts := strings.SplitN(text[2:], ",", MaxStates+1)
	if len(parts) > MaxStates {
		return Machine{}, ErrSyntax
	}
	m := Machine{Letters: int64(text[0]) - '0', States: int64(len(parts))}
	for q, part := range parts {
		if int64(len(part)) != 2*m.Letters {
			return Machine{}, ErrSyntax
		}
		r := parseRow(part)
		m.Out[q], m.Next[q] = r.out, r.next
	}
	if !IsMachine(m) {
		return Machine{}, ErrSyntax
	}
	return m, ErrNone
}

// parseRow reads the text of one state, which has 4 or 6 bytes. A byte that means nothing becomes
// a number that no machine has, so that IsMachine refuses it.
func parseRow(text string) row {
	if len(text) == 4 {
		// The third letter, which two-letter machines lack, has entries 0.
		text += "0a"
	}
	cells := [6]byte([]byte(text))
	var r row
	for x := range 3 {
		r.out[x] = cells[2*x] - '0'
		r.next[x] = cells[2*x+1] - 'a'
	}
	return r
}

// isState reports whether q is a state of m.
func isState(m Machine, q int64) bool {
	return q >= 0 && q < m.States
}

// isWord reports whether w is a word of d letters.
func isWord(d int64, w string) bool {
	if len(w) > MaxWord {
		return false
	}
	for i := range len(w) {
		if int64(w[i]) < '0' || int64(w[i]) >= '0'+d {
			return false
		}
	}
	return true
}

// checkWalk returns the error of functions that lead a word by a state.
func checkWalk(m Machine, q int64, w string) int64 {
	if !IsMachine(m) || !isWord(m.Letters, w) {
		return ErrInvalid
	}
	if !isState(m, q) {
		return ErrRange
	}
	return ErrNone
}

// walk returns the word to which q leads w, and the section of q at w.
func walk(m Machine, q int64, w string) (string, int64) {
	image := make([]byte, len(w))
	for i := range len(w) {
		x := w[i] - '0'
		image[i] = '0' + m.Out[q][x]
		q = int64(m.Next[q][x])
	}
	return string(image), q
}

// ActOnWord returns the word to which the state q leads w, and ErrNone.
func ActOnWord(m Machine, q int64, w string) (string, int64) {
	if code := checkWalk(m, q, w); code != ErrNone {
		return "", code
	}
	image, _ := walk(m, q, w)
	return image, ErrNone
}

// SectionAt returns the section of q at w, and ErrNone.
func SectionAt(m Machine, q int64, w string) (int64, int64) {
	if code := checkWalk(m, q, w); code != ErrNone {
		return 0, code
	}
	_, section := walk(m, q, w)
	return section, ErrNone
}

// InverseMachine returns the inverse machine, and ErrNone.
func InverseMachine(m Machine) (Machine, int64) {
	if !IsMachine(m) {
		return Machine{}, ErrInvalid
	}
	inverse := Machine{Letters: m.Letters, States: m.States}
	for q := range m.States {
		for x := range m.Letters {
			y := m.Out[q][x]
			inverse.Out[q][y] = byte(x)
			inverse.Next[q][y] = m.Next[q][x]
		}
	}
	return inverse, ErrNone
}

// classesOf returns, for each state, the number of the set of states that are equal to it; the sets
// are numbered by their least states.
func classesOf(m Machine) [MaxStates]byte {
	var classes [MaxStates]byte
	// Sets are only ever divided, so a view that comes back shows that no word divides them further.
	seen := map[Machine]bool{}
	for {
		view := withClasses(m, classes)
		if seen[view] {
			return classes
		}
		seen[view] = true
		classes = numberRows(view)
	}
}

// withClasses returns m going on to the numbers of the sets in place of the states.
func withClasses(m Machine, classes [MaxStates]byte) Machine {
	view := m
	for q := range m.States {
		for x := range m.Letters {
			view.Next[q][x] = classes[m.Next[q][x]]
		}
	}
	return view
}

// numberRows gives states with the same row one number, counted from the least state on.
func numberRows(m Machine) [MaxStates]byte {
	var numbers [MaxStates]byte
	known := map[row]byte{}
	for q := range m.States {
		r := row{out: m.Out[q], next: m.Next[q]}
		number, ok := known[r]
		if !ok {
			number = byte(len(known))
			known[r] = number
		}
		numbers[q] = number
	}
	return numbers
}

// AreEqualStates reports whether q and r are equal, and returns ErrNone.
func AreEqualStates(m Machine, q int64, r int64) (bool, int64) {
	if !IsMachine(m) {
		return false, ErrInvalid
	}
	if !isState(m, q) || !isState(m, r) {
		return false, ErrRange
	}
	classes := classesOf(m)
	return classes[q] == classes[r], ErrNone
}

// TrivialStates returns the trivial states in ascending order, and ErrNone.
func TrivialStates(m Machine) ([]int64, int64) {
	minimal, numbers, code := MinimalMachine(m)
	if code != ErrNone {
		return nil, code
	}
	var trivial []int64
	for q, number := range numbers {
		if staysTrivial(minimal, number) {
			trivial = append(trivial, int64(q))
		}
	}
	return trivial, ErrNone
}

// staysTrivial reports whether a state of a minimal machine is trivial. The sections of a trivial
// state are trivial too, so that all of them are this one state there.
func staysTrivial(minimal Machine, q int64) bool {
	for x := range minimal.Letters {
		if int64(minimal.Out[q][x]) != x || int64(minimal.Next[q][x]) != q {
			return false
		}
	}
	return true
}

// MinimalMachine returns the minimal machine of m, the list of the numbers in it of all states of
// m, and ErrNone.
func MinimalMachine(m Machine) (Machine, []int64, int64) {
	if !IsMachine(m) {
		return Machine{}, nil, ErrInvalid
	}
	classes := classesOf(m)
	view := withClasses(m, classes)
	minimal := Machine{Letters: m.Letters}
	numbers := make([]int64, m.States)
	for q := range m.States {
		number := int64(classes[q])
		numbers[q] = number
		// Numbers ascend with the least states, so a set is met first where its number is the count.
		if number == minimal.States {
			minimal.Out[number], minimal.Next[number] = view.Out[q], view.Next[q]
			minimal.States++
		}
	}
	return minimal, numbers, ErrNone
}

// isLevel reports whether n is a level whose words may be listed.
func isLevel(n int64) bool {
	return n >= 0 && n <= MaxLevel
}

// levelSize returns the number of words of n letters out of d.
func levelSize(d int64, n int64) int64 {
	size := int64(1)
	for range n {
		size *= d
	}
	return size
}

// levelWord returns the word with the number k of the level n.
func levelWord(d int64, n int64, k int64) string {
	word := make([]byte, n)
	for i := n - 1; i >= 0; i-- {
		word[i] = '0' + byte(k%d)
		k /= d
	}
	return string(word)
}

// levelNumber returns the number of w in its level.
func levelNumber(d int64, w string) int64 {
	number := int64(0)
	for i := range len(w) {
		number = number*d + int64(w[i]-'0')
	}
	return number
}

// LevelPermutation returns, for all words of the level n, n in 0..MaxLevel, in order, the number
// of the word to which q leads it, and ErrNone.
func LevelPermutation(m Machine, q int64, n int64) ([]int64, int64) {
	if !IsMachine(m) {
		return nil, ErrInvalid
	}
	if !isState(m, q) || !isLevel(n) {
		return nil, ErrRange
	}
	images := make([]int64, levelSize(m.Letters, n))
	for k := range images {
		image, _ := walk(m, q, levelWord(m.Letters, n, int64(k)))
		images[k] = levelNumber(m.Letters, image)
	}
	return images, ErrNone
}

// WordOfNumber returns the word with the number k of the level n, n in 0..MaxLevel, for d letters,
// and ErrNone. (ErrInvalid is not returned.)
func WordOfNumber(d int64, n int64, k int64) (string, int64) {
	if !isAlphabet(d) || !isLevel(n) || k < 0 || k >= levelSize(d, n) {
		return "", ErrRange
	}
	return levelWord(d, n, k), ErrNone
}

// NumberOfWord returns the number of a word of at most MaxLevel letters for d letters, and
// ErrNone. Errors: ErrRange, ahead of ErrInvalid, if d is not 2 or 3; ErrLimit if the word is
// longer.
func NumberOfWord(d int64, w string) (int64, int64) {
	if !isAlphabet(d) {
		return 0, ErrRange
	}
	if !isWord(d, w) {
		return 0, ErrInvalid
	}
	if len(w) > MaxLevel {
		return 0, ErrLimit
	}
	return levelNumber(d, w), ErrNone
}

// OrbitOfWord returns w, what q leads it to, what q leads that to, and so on, up to the last one
// before w comes back, for a word of at most MaxLevel letters, and ErrNone. Errors: ErrLimit if it
// is longer.
func OrbitOfWord(m Machine, q int64, w string) ([]string, int64) {
	if code := checkWalk(m, q, w); code != ErrNone {
		return nil, code
	}
	if len(w) > MaxLevel {
		return nil, ErrLimit
	}
	orbit := []string{w}
	for {
		image, _ := walk(m, q, orbit[len(orbit)-1])
		if image == w {
			return orbit, ErrNone
		}
		orbit = append(orbit, image)
	}
}
